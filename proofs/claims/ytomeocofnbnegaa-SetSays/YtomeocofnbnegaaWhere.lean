import Derived.Test.YtomeocofnbnegaaWords
import Derived.Test.YtomeocofnbnegaaHas
import Derived.WalkKit
import Derived.WalkSpells
import Derived.WalkLawsBesides
import Derived.Deep.RegionWith
import Derived.BigRegion
namespace Go.Proofs.Ytomeocofnbnegaa
open Go.RowKit
attribute [local go_sem] setCell_drewN alloc_drewN
/-- Block number N is an array of cells of a set, and may be written. -/
def Lies (w : World) (N : Nat) (A : Array Value) : Prop := w.heap[N]? = some (.cells A 24 (0, 0))
theorem Lies.cell {w : World} {N : Nat} {A : Array Value} (h : Lies w N A) (o : Nat) : w.cell? ⟨N, o, none⟩ = A[o]? := by
  unfold Lies at h
  simp [World.cell?, h]
theorem Lies.frozen {w : World} {N : Nat} {A : Array Value} (h : Lies w N A) (o : Nat) : w.frozen? ⟨N, o, none⟩ = false := by
  unfold Lies at h
  simp [World.frozen?, h]
theorem Lies.lt {w : World} {N : Nat} {A : Array Value} (h : Lies w N A) : N < w.heap.size := by
  unfold Lies at h
  rcases Nat.lt_or_ge N w.heap.size with h1 | h1
  · exact h1
  · rw [Array.getElem?_eq_none h1] at h; cases h
theorem Lies.set {w : World} {N : Nat} {A : Array Value} (h : Lies w N A) (i : Nat) (v : Value) : Lies (w.setCell ⟨N, i, none⟩ v) N (A.setIfInBounds i v) := by
  unfold Lies at h ⊢
  simp [World.setCell, Array.getElem?_modify, h]
theorem Lies.other {w : World} {N M : Nat} {A : Array Value} (h : Lies w N A) (i : Nat) (v : Value) (hne : N ≠ M) : Lies (w.setCell ⟨M, i, none⟩ v) N A := by
  unfold Lies at h ⊢
  rw [Below.heap_setCell _ _ _ _ (by simpa using hne)]; exact h
theorem Lies.below {W w' : World} {N B : Nat} {A : Array Value} (h : Lies W N A) (hb : Below B W w') (hN : N < B) : Lies w' N A := by
  unfold Lies at h ⊢
  rw [hb.block N hN]; exact h
theorem Lies.alloc {w : World} {N : Nat} {A : Array Value} (h : Lies w N A) (o : Obj) : Lies (w.alloc o) N A := by
  have := h.lt
  unfold Lies at h ⊢
  rw [Below.heap_alloc _ _ _ this]; exact h
theorem Lies.drew {w : World} {N : Nat} {A : Array Value} (h : Lies w N A) : Lies w.drew N A := h
theorem Lies.drewN {w : World} {N : Nat} {A : Array Value} (h : Lies w N A) (n : Nat) : Lies (w.drewN n) N A := h
theorem Lies.new (w : World) (A : Array Value) : Lies (w.alloc (.cells A 24)) w.heap.size A := by
  show (w.heap.push _)[w.heap.size]? = _
  simp

theorem wrap_mod (x : Int) : IntKind.u64.wrap x = x % 18446744073709551616 := by
  simp [IntKind.wrap, IntKind.bits, IntKind.signed]
theorem wd_add_two (S : BitVec 256) (k : Nat) (hk : k < 256) (h : S.getLsbD k = false) : IntKind.u64.wrap (wd S (k / 64) + IntKind.u64.wrap (2 ^ (k % 64))) = wd (S ||| BitVec.twoPow 256 k) (k / 64) := by
  rw [← wd_or_two_same S k hk, wrap_two _ (by omega)]
  unfold wd
  rw [bits_or_bv]
  generalize hv : S.extractLsb' (64 * (k / 64)) 64 = v
  have hz : v.getLsbD (k % 64) = false := by
    rw [← hv, BitVec.getLsbD_extractLsb', show 64 * (k / 64) + k % 64 = k from by omega, h]; simp
  have ha : v &&& BitVec.twoPow 64 (k % 64) = 0#64 := by
    apply BitVec.eq_of_getLsbD_eq; intro i hi
    rw [BitVec.getLsbD_and, BitVec.getLsbD_twoPow]
    by_cases e : k % 64 = i
    · rw [← e, hz]; simp
    · simp [e]
  rw [← BitVec.add_eq_or_of_and_eq_zero _ _ ha, BitVec.toNat_add, wrap_mod]
  omega
theorem upto_step_yes (p : Nat → Bool) (k : Nat) (h : p k = true) : upto p k ||| BitVec.twoPow 256 k = upto p (k + 1) := by
  conv => rhs; unfold upto
  rw [if_pos h]
theorem upto_step_no (p : Nat → Bool) (k : Nat) (h : p k = false) : upto p k = upto p (k + 1) := by
  conv => rhs; unfold upto
  rw [if_neg (by simp [h])]

set_option maxHeartbeats 1000000 in
theorem where_10 (c1 c2 : Value) (p : Nat → Bool) (w : World)
    (hp : Hid (∀ (k : Nat) (w' : World), k < 256 → Below w.heap.size w w' → Calls Try.prog 10 #[.int .i64 k, c1, c2] w' fun e w'' => e = .returned (.bool (p k)) ∧ Below w'.heap.size w' w'')) :
    Calls Try.prog 9 #[(.func (.func 10) #[] #[c1, c2])] w fun e w' => e = .returned (.agg #[.int .u64 (wd (upto p 256) 0), .int .u64 (wd (upto p 256) 1), .int .u64 (wd (upto p 256) 2), .int .u64 (wd (upto p 256) 3)]) ∧ Below w.heap.size w w' := by
  go_enter Try.func9, Try.ntmps9
  go_wp2_with fail
  go_loopw [3, 4] (fun _ i wx => ∃ (k : Nat) (S : BitVec 256), i = .int .i64 k ∧ k ≤ 256 ∧ Hid (S = upto p k) ∧ Below w.heap.size w wx ∧ Lies wx w.heap.size #[.int .u64 (wd S 0), .int .u64 (wd S 1), .int .u64 (wd S 2), .int .u64 (wd S 3)]) (fun _ i _ => 256 - (intOf i).toNat)
  case atStart => exact ⟨0, 0#256, rfl, by omega, rfl, (Below.refl _ _).alloc (Nat.le_refl _) _, by simp only [wd_zero]; exact Lies.new _ _⟩
  case round =>
    obtain ⟨k, S, rfl, hk, HS, hB, hL⟩ := hrel
    by_cases hh : (k : Int) < 256
    · go_wp2_with fail
      refine (hp.out k _ (by omega) hB).mono ?_
      rintro e w1 ⟨rfl, hb1⟩
      have hB1 := hB.trans (hb1.mono (by have := hL.lt; omega))
      have hL1 := hL.below hb1 hL.lt
      have hlt := hL1.lt
      clear hb1 hL hB
      have hq := at_word S k (by omega)
      have hc := hL1.cell (k / 64)
      have hf := hL1.frozen (k / 64)
      cases hpk : p k
      · have HP : Hid (p k = false) := hpk
        clear hpk
        go_wp2_with fail
        exact ⟨⟨k + 1, S, by go_num, by omega, by rw [HS.out]; exact upto_step_no p k HP.out, hB1, hL1⟩, by simp [intOf]; omega⟩
      · have HP : Hid (p k = true) := hpk
        clear hpk
        go_wp2_with fail
        go_region
        go_wp2_with fail
        refine ⟨⟨k + 1, S ||| BitVec.twoPow 256 k, by go_num, by omega, by rw [HS.out]; exact upto_step_yes p k HP.out, (hB1.setCell (by simp) _).drew, ?_⟩, by simp [intOf]; omega⟩
        have hs := (hL1.set (k / 64) (.int .u64 (IntKind.u64.wrap (wd S (k / 64) + IntKind.u64.wrap (2 ^ (k % 64)))))).drew
        rw [List.setIfInBounds_toArray, set_word S k (by omega) _ (wd_add_two S k (by omega) (by rw [HS.out, getLsbD_upto _ _ _ (by omega)]; simp))] at hs
        exact hs
    · have hc := hL.cell
      have hf := hL.frozen
      have hlt := hL.lt
      have hk2 : k = 256 := by omega
      go_wp2_with fail
      exact bodyPost_ret (v := .agg #[.int .u64 (wd S 0), .int .u64 (wd S 1), .int .u64 (wd S 2), .int .u64 (wd S 3)]) (by simp [results, Try.results9, go_sem, hc]) rfl ⟨by rw [HS.out, hk2], (((hB.setCell (by simp) _).setCell (by simp) _).setCell (by simp) _).setCell (by simp) _⟩

set_option maxHeartbeats 1000000 in
theorem where_17 (c1 c2 : Value) (p : Nat → Bool) (w : World)
    (hp : Hid (∀ (k : Nat) (w' : World), k < 256 → Below w.heap.size w w' → Calls Try.prog 17 #[.int .i64 k, c1, c2] w' fun e w'' => e = .returned (.bool (p k)) ∧ Below w'.heap.size w' w'')) :
    Calls Try.prog 9 #[(.func (.func 17) #[] #[c1, c2])] w fun e w' => e = .returned (.agg #[.int .u64 (wd (upto p 256) 0), .int .u64 (wd (upto p 256) 1), .int .u64 (wd (upto p 256) 2), .int .u64 (wd (upto p 256) 3)]) ∧ Below w.heap.size w w' := by
  go_enter Try.func9, Try.ntmps9
  go_wp2_with fail
  go_loopw [3, 4] (fun _ i wx => ∃ (k : Nat) (S : BitVec 256), i = .int .i64 k ∧ k ≤ 256 ∧ Hid (S = upto p k) ∧ Below w.heap.size w wx ∧ Lies wx w.heap.size #[.int .u64 (wd S 0), .int .u64 (wd S 1), .int .u64 (wd S 2), .int .u64 (wd S 3)]) (fun _ i _ => 256 - (intOf i).toNat)
  case atStart => exact ⟨0, 0#256, rfl, by omega, rfl, (Below.refl _ _).alloc (Nat.le_refl _) _, by simp only [wd_zero]; exact Lies.new _ _⟩
  case round =>
    obtain ⟨k, S, rfl, hk, HS, hB, hL⟩ := hrel
    by_cases hh : (k : Int) < 256
    · go_wp2_with fail
      refine (hp.out k _ (by omega) hB).mono ?_
      rintro e w1 ⟨rfl, hb1⟩
      have hB1 := hB.trans (hb1.mono (by have := hL.lt; omega))
      have hL1 := hL.below hb1 hL.lt
      have hlt := hL1.lt
      clear hb1 hL hB
      have hq := at_word S k (by omega)
      have hc := hL1.cell (k / 64)
      have hf := hL1.frozen (k / 64)
      cases hpk : p k
      · have HP : Hid (p k = false) := hpk
        clear hpk
        go_wp2_with fail
        exact ⟨⟨k + 1, S, by go_num, by omega, by rw [HS.out]; exact upto_step_no p k HP.out, hB1, hL1⟩, by simp [intOf]; omega⟩
      · have HP : Hid (p k = true) := hpk
        clear hpk
        go_wp2_with fail
        go_region
        go_wp2_with fail
        refine ⟨⟨k + 1, S ||| BitVec.twoPow 256 k, by go_num, by omega, by rw [HS.out]; exact upto_step_yes p k HP.out, (hB1.setCell (by simp) _).drew, ?_⟩, by simp [intOf]; omega⟩
        have hs := (hL1.set (k / 64) (.int .u64 (IntKind.u64.wrap (wd S (k / 64) + IntKind.u64.wrap (2 ^ (k % 64)))))).drew
        rw [List.setIfInBounds_toArray, set_word S k (by omega) _ (wd_add_two S k (by omega) (by rw [HS.out, getLsbD_upto _ _ _ (by omega)]; simp))] at hs
        exact hs
    · have hc := hL.cell
      have hf := hL.frozen
      have hlt := hL.lt
      have hk2 : k = 256 := by omega
      go_wp2_with fail
      exact bodyPost_ret (v := .agg #[.int .u64 (wd S 0), .int .u64 (wd S 1), .int .u64 (wd S 2), .int .u64 (wd S 3)]) (by simp [results, Try.results9, go_sem, hc]) rfl ⟨by rw [HS.out, hk2], (((hB.setCell (by simp) _).setCell (by simp) _).setCell (by simp) _).setCell (by simp) _⟩

set_option maxHeartbeats 1000000 in
theorem where_19 (c1 c2 : Value) (p : Nat → Bool) (w : World)
    (hp : Hid (∀ (k : Nat) (w' : World), k < 256 → Below w.heap.size w w' → Calls Try.prog 19 #[.int .i64 k, c1, c2] w' fun e w'' => e = .returned (.bool (p k)) ∧ Below w'.heap.size w' w'')) :
    Calls Try.prog 9 #[(.func (.func 19) #[] #[c1, c2])] w fun e w' => e = .returned (.agg #[.int .u64 (wd (upto p 256) 0), .int .u64 (wd (upto p 256) 1), .int .u64 (wd (upto p 256) 2), .int .u64 (wd (upto p 256) 3)]) ∧ Below w.heap.size w w' := by
  go_enter Try.func9, Try.ntmps9
  go_wp2_with fail
  go_loopw [3, 4] (fun _ i wx => ∃ (k : Nat) (S : BitVec 256), i = .int .i64 k ∧ k ≤ 256 ∧ Hid (S = upto p k) ∧ Below w.heap.size w wx ∧ Lies wx w.heap.size #[.int .u64 (wd S 0), .int .u64 (wd S 1), .int .u64 (wd S 2), .int .u64 (wd S 3)]) (fun _ i _ => 256 - (intOf i).toNat)
  case atStart => exact ⟨0, 0#256, rfl, by omega, rfl, (Below.refl _ _).alloc (Nat.le_refl _) _, by simp only [wd_zero]; exact Lies.new _ _⟩
  case round =>
    obtain ⟨k, S, rfl, hk, HS, hB, hL⟩ := hrel
    by_cases hh : (k : Int) < 256
    · go_wp2_with fail
      refine (hp.out k _ (by omega) hB).mono ?_
      rintro e w1 ⟨rfl, hb1⟩
      have hB1 := hB.trans (hb1.mono (by have := hL.lt; omega))
      have hL1 := hL.below hb1 hL.lt
      have hlt := hL1.lt
      clear hb1 hL hB
      have hq := at_word S k (by omega)
      have hc := hL1.cell (k / 64)
      have hf := hL1.frozen (k / 64)
      cases hpk : p k
      · have HP : Hid (p k = false) := hpk
        clear hpk
        go_wp2_with fail
        exact ⟨⟨k + 1, S, by go_num, by omega, by rw [HS.out]; exact upto_step_no p k HP.out, hB1, hL1⟩, by simp [intOf]; omega⟩
      · have HP : Hid (p k = true) := hpk
        clear hpk
        go_wp2_with fail
        go_region
        go_wp2_with fail
        refine ⟨⟨k + 1, S ||| BitVec.twoPow 256 k, by go_num, by omega, by rw [HS.out]; exact upto_step_yes p k HP.out, (hB1.setCell (by simp) _).drew, ?_⟩, by simp [intOf]; omega⟩
        have hs := (hL1.set (k / 64) (.int .u64 (IntKind.u64.wrap (wd S (k / 64) + IntKind.u64.wrap (2 ^ (k % 64)))))).drew
        rw [List.setIfInBounds_toArray, set_word S k (by omega) _ (wd_add_two S k (by omega) (by rw [HS.out, getLsbD_upto _ _ _ (by omega)]; simp))] at hs
        exact hs
    · have hc := hL.cell
      have hf := hL.frozen
      have hlt := hL.lt
      have hk2 : k = 256 := by omega
      go_wp2_with fail
      exact bodyPost_ret (v := .agg #[.int .u64 (wd S 0), .int .u64 (wd S 1), .int .u64 (wd S 2), .int .u64 (wd S 3)]) (by simp [results, Try.results9, go_sem, hc]) rfl ⟨by rw [HS.out, hk2], (((hB.setCell (by simp) _).setCell (by simp) _).setCell (by simp) _).setCell (by simp) _⟩

set_option maxHeartbeats 1000000 in
theorem where_21 (c1 : Value) (p : Nat → Bool) (w : World)
    (hp : Hid (∀ (k : Nat) (w' : World), k < 256 → Below w.heap.size w w' → Calls Try.prog 21 #[.int .i64 k, c1] w' fun e w'' => e = .returned (.bool (p k)) ∧ Below w'.heap.size w' w'')) :
    Calls Try.prog 9 #[(.func (.func 21) #[] #[c1])] w fun e w' => e = .returned (.agg #[.int .u64 (wd (upto p 256) 0), .int .u64 (wd (upto p 256) 1), .int .u64 (wd (upto p 256) 2), .int .u64 (wd (upto p 256) 3)]) ∧ Below w.heap.size w w' := by
  go_enter Try.func9, Try.ntmps9
  go_wp2_with fail
  go_loopw [3, 4] (fun _ i wx => ∃ (k : Nat) (S : BitVec 256), i = .int .i64 k ∧ k ≤ 256 ∧ Hid (S = upto p k) ∧ Below w.heap.size w wx ∧ Lies wx w.heap.size #[.int .u64 (wd S 0), .int .u64 (wd S 1), .int .u64 (wd S 2), .int .u64 (wd S 3)]) (fun _ i _ => 256 - (intOf i).toNat)
  case atStart => exact ⟨0, 0#256, rfl, by omega, rfl, (Below.refl _ _).alloc (Nat.le_refl _) _, by simp only [wd_zero]; exact Lies.new _ _⟩
  case round =>
    obtain ⟨k, S, rfl, hk, HS, hB, hL⟩ := hrel
    by_cases hh : (k : Int) < 256
    · go_wp2_with fail
      refine (hp.out k _ (by omega) hB).mono ?_
      rintro e w1 ⟨rfl, hb1⟩
      have hB1 := hB.trans (hb1.mono (by have := hL.lt; omega))
      have hL1 := hL.below hb1 hL.lt
      have hlt := hL1.lt
      clear hb1 hL hB
      have hq := at_word S k (by omega)
      have hc := hL1.cell (k / 64)
      have hf := hL1.frozen (k / 64)
      cases hpk : p k
      · have HP : Hid (p k = false) := hpk
        clear hpk
        go_wp2_with fail
        exact ⟨⟨k + 1, S, by go_num, by omega, by rw [HS.out]; exact upto_step_no p k HP.out, hB1, hL1⟩, by simp [intOf]; omega⟩
      · have HP : Hid (p k = true) := hpk
        clear hpk
        go_wp2_with fail
        go_region
        go_wp2_with fail
        refine ⟨⟨k + 1, S ||| BitVec.twoPow 256 k, by go_num, by omega, by rw [HS.out]; exact upto_step_yes p k HP.out, (hB1.setCell (by simp) _).drew, ?_⟩, by simp [intOf]; omega⟩
        have hs := (hL1.set (k / 64) (.int .u64 (IntKind.u64.wrap (wd S (k / 64) + IntKind.u64.wrap (2 ^ (k % 64)))))).drew
        rw [List.setIfInBounds_toArray, set_word S k (by omega) _ (wd_add_two S k (by omega) (by rw [HS.out, getLsbD_upto _ _ _ (by omega)]; simp))] at hs
        exact hs
    · have hc := hL.cell
      have hf := hL.frozen
      have hlt := hL.lt
      have hk2 : k = 256 := by omega
      go_wp2_with fail
      exact bodyPost_ret (v := .agg #[.int .u64 (wd S 0), .int .u64 (wd S 1), .int .u64 (wd S 2), .int .u64 (wd S 3)]) (by simp [results, Try.results9, go_sem, hc]) rfl ⟨by rw [HS.out, hk2], (((hB.setCell (by simp) _).setCell (by simp) _).setCell (by simp) _).setCell (by simp) _⟩

end Go.Proofs.Ytomeocofnbnegaa
