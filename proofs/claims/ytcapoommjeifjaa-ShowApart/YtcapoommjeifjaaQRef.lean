import Derived.Test.YtcapoommjeifjaaQLit
namespace Go.Proofs.Ytcapoommjeifjaa
open Go.RowKit
theorem conv_one (c : UInt8) (w : World) : (convert 57 9 (.slice (some ⟨w.heap.size, 0, none⟩) 1 1)).run Try.prog (w.alloc (.cells #[.int .u8 (c.toNat : Int)] 5)) = .ok (.string ⟨#[c]⟩) (w.alloc (.cells #[.int .u8 (c.toNat : Int)] 5)) := by
  have h : (w.alloc (.cells #[.int .u8 (c.toNat : Int)] 5)).ownsRow w.heap.size 5 1 (.slice (some ⟨w.heap.size, 0, none⟩) 1 1) 1 (([c] : List UInt8).map fun b => Value.int .u8 (b.toNat : Int)) :=
    World.ownsRow_lit w #[.int .u8 (c.toNat : Int)] 1 (Nat.le_refl _) (by unfold maxLen; omega) rfl
  exact conv_own Try.underlying57 Try.underlying5 Try.underlying9 h
theorem dig_fin : ∀ k : Fin 16, hexA.extract k.val (k.val + 1) = ⟨#[hexc k.val]⟩ := by decide +kernel
theorem ret_str {s t : ByteArray} (h : s = t) : Ending.returned (.string s) = .returned (.string t) := by rw [h]
theorem cat4 (a b c d : UInt8) : ((⟨#[a, b]⟩ : ByteArray) ++ ⟨#[c]⟩) ++ ⟨#[d]⟩ = ⟨#[a, b, c, d]⟩ := by apply ByteArray.ext; simp
set_option maxHeartbeats 1000000 in
theorem digit_any (i : Int) (k : Nat) (h : i = k) (hk : k < 16) (w : World) :
    Calls Try.prog 59 #[.int .i64 i] w fun e w' => e = .returned (.string ⟨[hexc k].toArray⟩) ∧ w' = w := by
  subst h
  have HD : Hid ((⟨#[48, 49, 50, 51, 52, 53, 54, 55, 56, 57, 97, 98, 99, 100, 101, 102]⟩ : ByteArray).extract k (k + 1) = ⟨#[hexc k]⟩) := dig_fin ⟨k, hk⟩
  go_enter Try.func59, Try.ntmps59
  go_wp2_with fail
  rw [HD.out]
  go_ret
  exact ⟨rfl, rfl⟩
theorem rsign (low : Nat) (g : List UInt8) (c : UInt8) (h10 : c.toNat ≠ 10) (h9 : c.toNat ≠ 9) (hg : gd g c = true → low ≤ c.toNat ∧ c.toNat ≤ 126) (hp : c.toNat < low ∨ 126 < c.toNat) : sign low g c = [92, 120, hexc (c.toNat / 16), hexc (c.toNat % 16)] := by
  unfold sign
  rw [if_neg h10, if_neg h9]
  cases h : gd g c
  · simp only [Bool.false_eq_true, if_false]; rw [if_pos hp]
  · have := hg h; omega
set_option maxHeartbeats 1000000 in
theorem shown_any (low : Nat) (g : ByteArray) (c : UInt8) (w : World) (hg : gd g.data.toList c = true → low ≤ c.toNat ∧ c.toNat ≤ 126) :
    Calls Try.prog 50 #[.int .i64 (c.toNat : Int), .string g, .int .i64 (low : Int)] w fun e w' => e = .returned (.string ⟨(sign low g.data.toList c).toArray⟩) ∧ Below w.heap.size w w' := by
  have hcl := c.toNat_lt
  by_cases h10 : c.toNat = 10
  · have e : sign low g.data.toList c = [92, 110] := by unfold sign; rw [if_pos h10]
    rw [e]
    have hx : ((c.toNat : Int) == 10) = true := by simp; omega
    clear e h10 hg
    go_enter Try.func50, Try.ntmps50
    go_wp2_with fail
    go_ret
    exact ⟨rfl, Below.refl _ _⟩
  · have hx0 : ((c.toNat : Int) == 10) = false := by simp; omega
    by_cases h9 : c.toNat = 9
    · have e : sign low g.data.toList c = [92, 116] := by unfold sign; rw [if_neg h10, if_pos h9]
      rw [e]
      have hx : ((c.toNat : Int) == 9) = true := by simp; omega
      clear e h10 h9 hg
      go_enter Try.func50, Try.ntmps50
      go_wp2_with fail
      go_ret
      exact ⟨rfl, Below.refl _ _⟩
    · have hx1 : ((c.toNat : Int) == 9) = false := by simp; omega
      by_cases hp : c.toNat < low ∨ 126 < c.toNat
      · rw [rsign low _ c h10 h9 hg hp]
        have hor : decide (c.toNat < low) = true ∨ (decide (c.toNat < low) = false ∧ decide ((126 : Int) < (c.toNat : Int)) = true) := by simp; omega
        clear h10 h9 hp hg
        rcases hor with hy | ⟨hy, hz⟩
        all_goals
          go_enter Try.func50, Try.ntmps50
          go_wp2_with fail
          refine (digit_any _ (c.toNat / 16) (by omega) (by omega) _).mono ?_
          rintro e w1 ⟨rfl, rfl⟩
          go_wp2_with fail
          refine (digit_any _ (c.toNat % 16) (by omega) (by omega) _).mono ?_
          rintro e w1 ⟨rfl, rfl⟩
          go_wp2_with fail
          go_ret
          exact ⟨ret_str (cat4 _ _ _ _), Below.refl _ _⟩
      · have hy : decide (c.toNat < low) = false := by simp; omega
        have hz : decide ((126 : Int) < (c.toNat : Int)) = false := by simp; omega
        have hconv := conv_one c w
        cases h : gd g.data.toList c
        · have hgf := gd_false h
          have e : sign low g.data.toList c = [c] := by unfold sign; rw [if_neg h10, if_neg h9, h]; simp only [Bool.false_eq_true, if_false]; rw [if_neg hp]
          rw [e]
          clear e h10 h9 hp hg h
          go_enter Try.func50, Try.ntmps50
          go_wp2_with fail
          refine (Try.strings_Contains_one g c _).mono ?_
          rintro e w1 ⟨rfl, rfl⟩
          rw [hgf]
          have hB : Below w.heap.size w (w.alloc (.cells #[.int .u8 (c.toNat : Int)] 5)) := (Below.refl _ _).alloc (Nat.le_refl _) _
          generalize w.alloc (.cells #[.int .u8 (c.toNat : Int)] 5) = w2 at *
          have hconv2 := conv_one c w2
          go_wp2_with fail
          go_ret
          exact ⟨rfl, hB.alloc hB.size _⟩
        · have hgf := gd_true h
          have e : sign low g.data.toList c = [92, c] := by unfold sign; rw [if_neg h10, if_neg h9, h]; simp only [if_true]
          rw [e]
          clear e h10 h9 hp hg h
          go_enter Try.func50, Try.ntmps50
          go_wp2_with fail
          refine (Try.strings_Contains_one g c _).mono ?_
          rintro e w1 ⟨rfl, rfl⟩
          rw [hgf]
          have hB : Below w.heap.size w (w.alloc (.cells #[.int .u8 (c.toNat : Int)] 5)) := (Below.refl _ _).alloc (Nat.le_refl _) _
          generalize w.alloc (.cells #[.int .u8 (c.toNat : Int)] 5) = w2 at *
          have hconv2 := conv_one c w2
          go_wp2_with fail
          go_ret
          exact ⟨rfl, hB.alloc hB.size _⟩
set_option maxHeartbeats 1000000 in
theorem wrapSmall (x : Int) (h0 : 0 ≤ x) (h1 : x ≤ 4611686018427387904) : IntKind.i64.wrap x = x := by
  simp only [IntKind.wrap, IntKind.signed, IntKind.bits]
  simp
  omega
theorem b_call {w W w' : World} (h : Below w.heap.size w W) (hb : Below W.heap.size W w') : Below w.heap.size w w' := h.trans (hb.mono h.size)
end Go.Proofs.Ytcapoommjeifjaa
