import Derived.Test.YtediipndkejnkaaLaw5
namespace Go.Proofs.Ytediipndkejnkaa
open Go.RowKit
theorem conv_one (c : UInt8) (w : World) : (convert 36 9 (.slice (some ⟨w.heap.size, 0, none⟩) 1 1)).run Try.prog (w.alloc (.cells #[.int .u8 (c.toNat : Int)] 5)) = .ok (.string ⟨#[c]⟩) (w.alloc (.cells #[.int .u8 (c.toNat : Int)] 5)) := by
  have h : (w.alloc (.cells #[.int .u8 (c.toNat : Int)] 5)).ownsRow w.heap.size 5 1 (.slice (some ⟨w.heap.size, 0, none⟩) 1 1) 1 (([c] : List UInt8).map fun b => Value.int .u8 (b.toNat : Int)) :=
    World.ownsRow_lit w #[.int .u8 (c.toNat : Int)] 1 (Nat.le_refl _) (by unfold maxLen; omega) rfl
  exact conv_own Try.underlying36 Try.underlying5 Try.underlying9 h
theorem dig_fin : ∀ k : Fin 16, hexA.extract k.val (k.val + 1) = ⟨#[hexc k.val]⟩ := by decide +kernel
theorem ret_str {s t : ByteArray} (h : s = t) : Ending.returned (.string s) = .returned (.string t) := by rw [h]
theorem cat4 (a b c d : UInt8) : ((⟨#[a, b]⟩ : ByteArray) ++ ⟨#[c]⟩) ++ ⟨#[d]⟩ = ⟨#[a, b, c, d]⟩ := by apply ByteArray.ext; simp
set_option maxHeartbeats 1000000 in
theorem digit_any (i : Int) (k : Nat) (h : i = k) (hk : k < 16) (w : World) :
    Calls Try.prog 40 #[.int .i64 i] w fun e w' => e = .returned (.string ⟨[hexc k].toArray⟩) ∧ w' = w := by
  subst h
  have HD : Hid ((⟨#[48, 49, 50, 51, 52, 53, 54, 55, 56, 57, 97, 98, 99, 100, 101, 102]⟩ : ByteArray).extract k (k + 1) = ⟨#[hexc k]⟩) := dig_fin ⟨k, hk⟩
  go_enter Try.func40, Try.ntmps40
  go_wp2_with fail
  rw [HD.out]
  go_ret
  exact ⟨rfl, rfl⟩
theorem rsign (low : Nat) (g : List UInt8) (c : UInt8) (h10 : c.toNat ≠ 10) (h9 : c.toNat ≠ 9) (hg : gd g c = true → low ≤ c.toNat ∧ c.toNat ≤ 126) (hp : c.toNat < low ∨ 126 < c.toNat) : sign low g c = [92, 120, hexc (c.toNat / 16), hexc (c.toNat % 16)] := by
  unfold sign
  rw [if_neg h10, if_neg h9]
  cases h : gd g c
  · simp only [Bool.false_eq_true, if_false]; rw [if_pos hp]
  · have := hg h; omega
set_option maxHeartbeats 1000000 in
theorem shown_any (low : Nat) (g : ByteArray) (c : UInt8) (w : World) (hg : gd g.data.toList c = true → low ≤ c.toNat ∧ c.toNat ≤ 126) :
    Calls Try.prog 20 #[.int .i64 (c.toNat : Int), .string g, .int .i64 (low : Int)] w fun e w' => e = .returned (.string ⟨(sign low g.data.toList c).toArray⟩) ∧ Below w.heap.size w w' := by
  have hcl := c.toNat_lt
  by_cases h10 : c.toNat = 10
  · have e : sign low g.data.toList c = [92, 110] := by unfold sign; rw [if_pos h10]
    rw [e]
    have hx : ((c.toNat : Int) == 10) = true := by simp; omega
    clear e h10 hg
    go_enter Try.func20, Try.ntmps20
    go_wp2_with fail
    go_ret
    exact ⟨rfl, Below.refl _ _⟩
  · have hx0 : ((c.toNat : Int) == 10) = false := by simp; omega
    by_cases h9 : c.toNat = 9
    · have e : sign low g.data.toList c = [92, 116] := by unfold sign; rw [if_neg h10, if_pos h9]
      rw [e]
      have hx : ((c.toNat : Int) == 9) = true := by simp; omega
      clear e h10 h9 hg
      go_enter Try.func20, Try.ntmps20
      go_wp2_with fail
      go_ret
      exact ⟨rfl, Below.refl _ _⟩
    · have hx1 : ((c.toNat : Int) == 9) = false := by simp; omega
      by_cases hp : c.toNat < low ∨ 126 < c.toNat
      · rw [rsign low _ c h10 h9 hg hp]
        have hor : decide (c.toNat < low) = true ∨ (decide (c.toNat < low) = false ∧ decide ((126 : Int) < (c.toNat : Int)) = true) := by simp; omega
        clear h10 h9 hp hg
        rcases hor with hy | ⟨hy, hz⟩
        all_goals
          go_enter Try.func20, Try.ntmps20
          go_wp2_with fail
          refine (digit_any _ (c.toNat / 16) (by omega) (by omega) _).mono ?_
          rintro e w1 ⟨rfl, rfl⟩
          go_wp2_with fail
          refine (digit_any _ (c.toNat % 16) (by omega) (by omega) _).mono ?_
          rintro e w1 ⟨rfl, rfl⟩
          go_wp2_with fail
          go_ret
          exact ⟨ret_str (cat4 _ _ _ _), Below.refl _ _⟩
      · have hy : decide (c.toNat < low) = false := by simp; omega
        have hz : decide ((126 : Int) < (c.toNat : Int)) = false := by simp; omega
        have hconv := conv_one c w
        cases h : gd g.data.toList c
        · have hgf := gd_false h
          have e : sign low g.data.toList c = [c] := by unfold sign; rw [if_neg h10, if_neg h9, h]; simp only [Bool.false_eq_true, if_false]; rw [if_neg hp]
          rw [e]
          clear e h10 h9 hp hg h
          go_enter Try.func20, Try.ntmps20
          go_wp2_with fail
          refine (Try.strings_Contains_one g c _).mono ?_
          rintro e w1 ⟨rfl, rfl⟩
          rw [hgf]
          have hB : Below w.heap.size w (w.alloc (.cells #[.int .u8 (c.toNat : Int)] 5)) := (Below.refl _ _).alloc (Nat.le_refl _) _
          generalize w.alloc (.cells #[.int .u8 (c.toNat : Int)] 5) = w2 at *
          have hconv2 := conv_one c w2
          go_wp2_with fail
          go_ret
          exact ⟨rfl, hB.alloc hB.size _⟩
        · have hgf := gd_true h
          have e : sign low g.data.toList c = [92, c] := by unfold sign; rw [if_neg h10, if_neg h9, h]; simp only [if_true]
          rw [e]
          clear e h10 h9 hp hg h
          go_enter Try.func20, Try.ntmps20
          go_wp2_with fail
          refine (Try.strings_Contains_one g c _).mono ?_
          rintro e w1 ⟨rfl, rfl⟩
          rw [hgf]
          have hB : Below w.heap.size w (w.alloc (.cells #[.int .u8 (c.toNat : Int)] 5)) := (Below.refl _ _).alloc (Nat.le_refl _) _
          generalize w.alloc (.cells #[.int .u8 (c.toNat : Int)] 5) = w2 at *
          have hconv2 := conv_one c w2
          go_wp2_with fail
          go_ret
          exact ⟨rfl, hB.alloc hB.size _⟩
set_option maxHeartbeats 1000000 in
theorem value_any (c : UInt8) (w : World) :
    Calls Try.prog 38 #[.int .u8 (c.toNat : Int)] w fun e w' => e = .returned (.int .i64 (Lib.indexByte hexs c)) ∧ Below w.heap.size w w' := by
  have hconv := conv_one c w
  go_enter Try.func38, Try.ntmps38
  go_wp2_with fail
  refine (Try.strings_Index_one _ c _).mono ?_
  rintro e w1 ⟨rfl, rfl⟩
  go_wp2_with fail
  go_ret
  exact ⟨rfl, (Below.refl _ _).alloc (Nat.le_refl _) _⟩
theorem one_cut (s : ByteArray) (h : 1 < s.size) : s.extract 1 2 = ⟨#[s[1]]⟩ := by
  obtain ⟨⟨l⟩⟩ := s
  match l, h with
  | [], h => simp [ByteArray.size] at h
  | [_], h => simp [ByteArray.size] at h
  | a :: b :: r, h => apply ByteArray.ext; simp; rfl
theorem hexAt_yes (s : ByteArray) (h : 4 ≤ s.size) (h1 : 0 ≤ Lib.indexByte hexs s[2]) (h2 : 0 ≤ Lib.indexByte hexs s[3]) : hexAt s.data.toList = (16 * (Lib.indexByte hexs s[2]).toNat + (Lib.indexByte hexs s[3]).toNat, 4) := by
  rw [hexAt_at s h, if_pos ⟨h1, h2⟩]
theorem hexAt_no (s : ByteArray) (h : 4 ≤ s.size) (h1 : ¬ (0 ≤ Lib.indexByte hexs s[2] ∧ 0 ≤ Lib.indexByte hexs s[3])) : hexAt s.data.toList = (0, 0) := by
  rw [hexAt_at s h, if_neg h1]
theorem wrapSmall (x : Int) (h0 : 0 ≤ x) (h1 : x ≤ 4611686018427387904) : IntKind.i64.wrap x = x := by
  simp only [IntKind.wrap, IntKind.signed, IntKind.bits]
  simp
  omega
theorem b_call {w W w' : World} (h : Below w.heap.size w W) (hb : Below W.heap.size W w') : Below w.heap.size w w' := h.trans (hb.mono h.size)
set_option maxRecDepth 20000 in
set_option maxHeartbeats 1000000 in
theorem said_any (s g : ByteArray) (w : World) (hs : s.size ≤ maxLen) (hg : ∀ c, gd g.data.toList c = true → c.toNat < 128) :
    Calls Try.prog 18 #[.string s, .string g] w fun e w' => e = .returned (.tuple #[.int .i64 ((signAt g.data.toList s.data.toList).1 : Int), .int .i64 ((signAt g.data.toList s.data.toList).2 : Int)]) ∧ Below w.heap.size w w' := by
  have HG : Hid (∀ c, gd g.data.toList c = true → c.toNat < 128) := hg
  clear hg
  unfold maxLen at hs
  by_cases h0 : s.size = 0
  · obtain rfl := empty_of s h0
    go_enter Try.func18, Try.ntmps18
    go_wp2_with fail
    go_ret2
    exact ⟨rfl, Below.refl _ _⟩
  · have he := nonempty s h0
    have h1 : (0 : Int) < s.size := by omega
    have h1' : 0 < s.size := by omega
    have hb0 := s[0].toNat_lt
    have e1 := signAt_at g.data.toList s h1'
    generalize signAt g.data.toList s.data.toList = R at *
    by_cases a10 : s[0].toNat = 10
    · rw [if_pos a10] at e1
      subst e1
      have hx : ((s[0].toNat : Int) == 10) = true := by simp; omega
      clear a10
      go_enter Try.func18, Try.ntmps18
      go_wp2_with fail
      go_ret2
      exact ⟨rfl, Below.refl _ _⟩
    · rw [if_neg a10] at e1
      have hx : ((s[0].toNat : Int) == 10) = false := by simp; omega
      by_cases a92 : s[0].toNat ≠ 92
      · rw [if_pos a92] at e1
        subst e1
        have hy : ((s[0].toNat : Int) == 92) = false := by simp; omega
        clear a10 a92
        go_enter Try.func18, Try.ntmps18
        go_wp2_with fail
        go_ret2
        exact ⟨rfl, Below.refl _ _⟩
      · rw [if_neg a92] at e1
        have hy : ((s[0].toNat : Int) == 92) = true := by simp; omega
        clear a10 a92
        by_cases h2 : s.size < 2
        · rw [strokeAt_short _ s h2] at e1
          subst e1
          have hz : ((s.size : Int) == 1) = true := by simp; omega
          go_enter Try.func18, Try.ntmps18
          go_wp2_with fail
          go_ret2
          exact ⟨rfl, Below.refl _ _⟩
        · rw [strokeAt_at _ s (by omega)] at e1
          have hz : ((s.size : Int) == 1) = false := by simp; omega
          have h3 : (1 : Int) < s.size := by omega
          have h3' : 1 < s.size := by omega
          have hb1 := s[1].toNat_lt
          by_cases b110 : s[1].toNat = 110
          · rw [if_pos b110] at e1
            subst e1
            have hu : ((s[1].toNat : Int) == 110) = true := by simp; omega
            clear b110
            go_enter Try.func18, Try.ntmps18
            go_wp2_with fail
            go_ret2
            exact ⟨rfl, Below.refl _ _⟩
          · rw [if_neg b110] at e1
            have hu : ((s[1].toNat : Int) == 110) = false := by simp; omega
            clear b110
            by_cases b116 : s[1].toNat = 116
            · rw [if_pos b116] at e1
              subst e1
              have hv : ((s[1].toNat : Int) == 116) = true := by simp; omega
              clear b116
              go_enter Try.func18, Try.ntmps18
              go_wp2_with fail
              go_ret2
              exact ⟨rfl, Below.refl _ _⟩
            · rw [if_neg b116] at e1
              have hv : ((s[1].toNat : Int) == 116) = false := by simp; omega
              clear b116
              by_cases b120 : s[1].toNat = 120
              · rw [if_pos b120] at e1
                have hq : ((s[1].toNat : Int) == 120) = true := by simp; omega
                clear b120
                by_cases h4 : s.size < 4
                · rw [hexAt_short s h4] at e1
                  subst e1
                  have hr : decide ((s.size : Int) < 4) = true := by simp; omega
                  go_enter Try.func18, Try.ntmps18
                  go_wp2_with fail
                  go_ret2
                  exact ⟨rfl, Below.refl _ _⟩
                · have hr : decide ((s.size : Int) < 4) = false := by simp; omega
                  have h5 : (2 : Int) < s.size := by omega
                  have h6 : (3 : Int) < s.size := by omega
                  have h5' : 2 < s.size := by omega
                  have h6' : 3 < s.size := by omega
                  have c1 : Lib.indexByte hexs s[2] < 16 := idx_lt hexs s[2]
                  have c2 : Lib.indexByte hexs s[3] < 16 := idx_lt hexs s[3]
                  have c3 := Lib.indexByte_ge hexs s[2]
                  have c4 := Lib.indexByte_ge hexs s[3]
                  by_cases hX : 0 ≤ Lib.indexByte hexs s[2]
                  · by_cases hY : 0 ≤ Lib.indexByte hexs s[3]
                    · have HE : Hid (R = _) := e1.trans (hexAt_yes s (by omega) hX hY)
                      have x1 : decide (Lib.indexByte hexs s[2] < 0) = false := by simp; omega
                      have x2 : decide (Lib.indexByte hexs s[3] < 0) = false := by simp; omega
                      clear e1
                      go_enter Try.func18, Try.ntmps18
                      go_wp2_with fail
                      refine (value_any s[2] _).mono ?_
                      rintro e w1 ⟨rfl, hB1⟩
                      go_wp2_with fail
                      refine (value_any s[3] _).mono ?_
                      rintro e w2 ⟨rfl, hB2⟩
                      have hB := b_call hB1 hB2
                      clear hB1 hB2
                      go_wp2_with fail
                      go_region_held3 (fun w' => Below w.heap.size w w') (first | exact b_call (by assumption) hb | assumption | exact Below.drew (by assumption)) ((go_at_call 38; refine (value_any _ _).mono ?_; rintro e w3 ⟨rfl, hb⟩))
                      all_goals
                        have hBe : Below w.heap.size w w3 := by assumption
                        generalize Lib.indexByte hexs s[2] = X at *
                        generalize Lib.indexByte hexs s[3] = Y at *
                        rw [wrapSmall (16 * X) (by omega) (by omega), wrapSmall (16 * X + Y) (by omega) (by omega)]
                        go_wp2_with fail
                        go_ret2
                        exact ⟨ret_two (by rw [HE.out]; show _ = ((16 * X.toNat + Y.toNat : Nat) : Int); omega) (by rw [HE.out]; rfl), hBe⟩
                    · have HE : Hid (R = (0, 0)) := e1.trans (hexAt_no s (by omega) (by omega))
                      have x1 : decide (Lib.indexByte hexs s[2] < 0) = false := by simp; omega
                      have x2 : decide (Lib.indexByte hexs s[3] < 0) = true := by simp; omega
                      clear e1
                      go_enter Try.func18, Try.ntmps18
                      go_wp2_with fail
                      refine (value_any s[2] _).mono ?_
                      rintro e w1 ⟨rfl, hB1⟩
                      go_wp2_with fail
                      refine (value_any s[3] _).mono ?_
                      rintro e w2 ⟨rfl, hB2⟩
                      have hB := b_call hB1 hB2
                      clear hB1 hB2
                      go_wp2_with fail
                      go_ret2
                      exact ⟨by rw [HE.out] <;> rfl, hB⟩
                  · have HE : Hid (R = (0, 0)) := e1.trans (hexAt_no s (by omega) (by omega))
                    have x1 : decide (Lib.indexByte hexs s[2] < 0) = true := by simp; omega
                    clear e1
                    go_enter Try.func18, Try.ntmps18
                    go_wp2_with fail
                    refine (value_any s[2] _).mono ?_
                    rintro e w1 ⟨rfl, hB1⟩
                    go_wp2_with fail
                    go_ret2
                    exact ⟨by rw [HE.out] <;> rfl, hB1⟩
              · rw [if_neg b120] at e1
                have hq : ((s[1].toNat : Int) == 120) = false := by simp; omega
                clear b120
                have HC : Hid (s.extract 1 2 = ⟨#[s[1]]⟩) := one_cut s h3'
                cases hg : gd g.data.toList s[1]
                · have hgf := gd_false hg
                  rw [hg] at e1
                  simp only [Bool.false_eq_true, if_false] at e1
                  subst e1
                  clear hg
                  go_enter Try.func18, Try.ntmps18
                  go_wp2_with fail
                  rw [HC.out]
                  refine (Try.strings_Contains_one g s[1] _).mono ?_
                  rintro e w1 ⟨rfl, rfl⟩
                  rw [hgf]
                  go_wp2_with fail
                  go_ret2
                  exact ⟨rfl, Below.refl _ _⟩
                · have hgf := gd_true hg
                  have h128 := HG.out _ hg
                  have hd : decide ((s[1].toNat : Int) < 128) = true := by simp; omega
                  rw [hg] at e1
                  simp only [if_true] at e1
                  subst e1
                  clear hg
                  go_enter Try.func18, Try.ntmps18
                  go_wp2_with fail
                  rw [HC.out]
                  refine (Try.strings_Contains_one g s[1] _).mono ?_
                  rintro e w1 ⟨rfl, rfl⟩
                  rw [hgf]
                  go_wp2_with fail
                  go_ret2
                  exact ⟨rfl, Below.refl _ _⟩
end Go.Proofs.Ytediipndkejnkaa
