import Derived.Test.YtbeohmcmphebhaaDoorXQRange
import Derived.WalkKit
import Derived.WalkSpells
import Derived.WalkLawsBesides
import Derived.Deep.RegionWith
import Derived.BigRegion
import Derived.Test.YtbeohmcmphebhaaDoorProg
namespace Go.Proofs.YtbeohmcmphebhaaDoor
open Go.RowKit
attribute [local go_sem] setCell_drewN alloc_drewN
/-- Block number N is an array of cells of a set, and may be written. -/
def Lies (w : World) (N : Nat) (A : Array Value) : Prop := w.heap[N]? = some (.cells A 24 (0, 0))
theorem Lies.cell {w : World} {N : Nat} {A : Array Value} (h : Lies w N A) (o : Nat) : w.cell? ⟨N, o, none⟩ = A[o]? := by
  unfold Lies at h
  simp [World.cell?, h]
theorem Lies.frozen {w : World} {N : Nat} {A : Array Value} (h : Lies w N A) (o : Nat) : w.frozen? ⟨N, o, none⟩ = false := by
  unfold Lies at h
  simp [World.frozen?, h]
theorem Lies.lt {w : World} {N : Nat} {A : Array Value} (h : Lies w N A) : N < w.heap.size := by
  unfold Lies at h
  rcases Nat.lt_or_ge N w.heap.size with h1 | h1
  · exact h1
  · rw [Array.getElem?_eq_none h1] at h; cases h
theorem Lies.set {w : World} {N : Nat} {A : Array Value} (h : Lies w N A) (i : Nat) (v : Value) : Lies (w.setCell ⟨N, i, none⟩ v) N (A.setIfInBounds i v) := by
  unfold Lies at h ⊢
  simp [World.setCell, Array.getElem?_modify, h]
theorem Lies.other {w : World} {N M : Nat} {A : Array Value} (h : Lies w N A) (i : Nat) (v : Value) (hne : N ≠ M) : Lies (w.setCell ⟨M, i, none⟩ v) N A := by
  unfold Lies at h ⊢
  rw [Below.heap_setCell _ _ _ _ (by simpa using hne)]; exact h
theorem Lies.below {W w' : World} {N B : Nat} {A : Array Value} (h : Lies W N A) (hb : Below B W w') (hN : N < B) : Lies w' N A := by
  unfold Lies at h ⊢
  rw [hb.block N hN]; exact h
theorem Lies.alloc {w : World} {N : Nat} {A : Array Value} (h : Lies w N A) (o : Obj) : Lies (w.alloc o) N A := by
  have := h.lt
  unfold Lies at h ⊢
  rw [Below.heap_alloc _ _ _ this]; exact h
theorem Lies.drew {w : World} {N : Nat} {A : Array Value} (h : Lies w N A) : Lies w.drew N A := h
theorem Lies.drewN {w : World} {N : Nat} {A : Array Value} (h : Lies w N A) (n : Nat) : Lies (w.drewN n) N A := h
theorem Lies.new (w : World) (A : Array Value) : Lies (w.alloc (.cells A 24)) w.heap.size A := by
  show (w.heap.push _)[w.heap.size]? = _
  simp

theorem wrap_mod (x : Int) : IntKind.u64.wrap x = x % 18446744073709551616 := by
  simp [IntKind.wrap, IntKind.bits, IntKind.signed]
theorem wd_add_two (S : BitVec 256) (k : Nat) (hk : k < 256) (h : S.getLsbD k = false) : IntKind.u64.wrap (wd S (k / 64) + IntKind.u64.wrap (2 ^ (k % 64))) = wd (S ||| BitVec.twoPow 256 k) (k / 64) := by
  rw [← wd_or_two_same S k hk, wrap_two _ (by omega)]
  unfold wd
  rw [bits_or_bv]
  generalize hv : S.extractLsb' (64 * (k / 64)) 64 = v
  have hz : v.getLsbD (k % 64) = false := by
    rw [← hv, BitVec.getLsbD_extractLsb', show 64 * (k / 64) + k % 64 = k from by omega, h]; simp
  have ha : v &&& BitVec.twoPow 64 (k % 64) = 0#64 := by
    apply BitVec.eq_of_getLsbD_eq; intro i hi
    rw [BitVec.getLsbD_and, BitVec.getLsbD_twoPow]
    by_cases e : k % 64 = i
    · rw [← e, hz]; simp
    · simp [e]
  rw [← BitVec.add_eq_or_of_and_eq_zero _ _ ha, BitVec.toNat_add, wrap_mod]
  omega
theorem upto_step_yes (p : Nat → Bool) (k : Nat) (h : p k = true) : upto p k ||| BitVec.twoPow 256 k = upto p (k + 1) := by
  conv => rhs; unfold upto
  rw [if_pos h]
theorem upto_step_no (p : Nat → Bool) (k : Nat) (h : p k = false) : upto p k = upto p (k + 1) := by
  conv => rhs; unfold upto
  rw [if_neg (by simp [h])]
end Go.Proofs.YtbeohmcmphebhaaDoor
namespace Go.Proofs.YtbeohmcmphebhaaDoor
open Go.RowKit
theorem ret_int {k : IntKind} {a b : Int} (h : a = b) : Ending.returned (.int k a) = .returned (.int k b) := by rw [h]
def ff (S : BitVec 256) : Nat → Nat → Int
  | _, 0 => -1
  | a, n + 1 => if inS S a then (a : Int) else ff S (a + 1) n
def fst (S : BitVec 256) (a : Int) : Int := ff S a.toNat (256 - a.toNat)
theorem fst_yes (S : BitVec 256) (k : Nat) (hk : k < 256) (h : inS S k = true) : fst S k = k := by
  unfold fst
  rw [Int.toNat_natCast, show 256 - k = (255 - k) + 1 from by omega, ff, if_pos h]
theorem fst_no (S : BitVec 256) (k : Nat) (hk : k < 256) (h : inS S k = false) : fst S k = fst S ((k + 1 : Nat) : Int) := by
  unfold fst
  rw [Int.toNat_natCast, Int.toNat_natCast, show 256 - k = (256 - (k + 1)) + 1 from by omega, ff, if_neg (by simp [h])]
theorem fst_out (S : BitVec 256) (k : Nat) (hk : 255 < k) : fst S k = -1 := by
  unfold fst
  rw [Int.toNat_natCast, show 256 - k = 0 from by omega, ff]
set_option maxHeartbeats 400000 in
theorem first_any (S : BitVec 256) (a : Int) (w : World) :
    Calls Tryd.prog 83 #[.agg #[.int .u64 (wd S 0), .int .u64 (wd S 1), .int .u64 (wd S 2), .int .u64 (wd S 3)], .int .i64 a] w fun e w' => e = .returned (.int .i64 (fst S a)) ∧ Below w.heap.size w w' := by
  by_cases h0 : a < 0
  all_goals go_enter Tryd.func83, Tryd.ntmps83
  all_goals go_wp2_with fail
  all_goals (
    go_loopw [5] (fun b wx => ∃ k : Nat, b = .int .i64 k ∧ Hid (fst S k = fst S a) ∧ Below w.heap.size w wx ∧ Lies wx w.heap.size #[.int .u64 (wd S 0), .int .u64 (wd S 1), .int .u64 (wd S 2), .int .u64 (wd S 3)]) (fun b _ => 256 - (intOf b).toNat)
    case atStart =>
      first
      | exact ⟨0, rfl, by unfold fst Hid; rw [show a.toNat = 0 from by omega]; rfl, (Below.refl _ _).alloc (Nat.le_refl _) _, Lies.new _ _⟩
      | exact ⟨a.toNat, by rw [Int.toNat_of_nonneg (by omega)], by unfold Hid; rw [Int.toNat_of_nonneg (by omega)], (Below.refl _ _).alloc (Nat.le_refl _) _, Lies.new _ _⟩
    case round =>
      obtain ⟨k, rfl, HS, hB, hL⟩ := hrel
      by_cases hh : (k : Int) ≤ 255
      · have hc := hL.cell
        cases hi : inS S k
        · have HI : Hid (inS S k = false) := hi
          clear hi
          go_wp2_with fail
          refine (has_any S k _ (by omega)).mono ?_
          rintro e w1 ⟨rfl, hb⟩
          rw [HI.out]
          go_wp2_with fail
          exact ⟨⟨k + 1, by go_num, by unfold Hid; rw [← fst_no S k (by omega) HI.out]; exact HS.out, hB.trans (hb.mono (by have := hL.lt; omega)), hL.below hb hL.lt⟩, by simp [intOf]; omega⟩
        · have HI : Hid (inS S k = true) := hi
          clear hi
          go_wp2_with fail
          refine (has_any S k _ (by omega)).mono ?_
          rintro e w1 ⟨rfl, hb⟩
          rw [HI.out]
          go_wp2_with fail
          go_ret
          exact ⟨ret_int (by rw [← HS.out, fst_yes S k (by omega) HI.out]), hB.trans (hb.mono (by have := hL.lt; omega))⟩
      · go_wp2_with fail
        go_ret
        exact ⟨ret_int (by rw [← HS.out, fst_out S k (by omega)]), hB⟩)
end Go.Proofs.YtbeohmcmphebhaaDoor
namespace Go.Proofs.YtbeohmcmphebhaaDoor
open Go.RowKit
theorem bcell {W w1 : World} (hb : Below W.heap.size W w1) : (∀ b o, b < W.heap.size → w1.cell? ⟨b, o, none⟩ = W.cell? ⟨b, o, none⟩) ∧ (∀ b o, b < W.heap.size → w1.frozen? ⟨b, o, none⟩ = W.frozen? ⟨b, o, none⟩) :=
  ⟨fun b o h => hb.cell (p := ⟨b, o, none⟩) h, fun b o h => hb.frozen (p := ⟨b, o, none⟩) h⟩
theorem full_and (S : BitVec 256) : rng 0 255 &&& S = S := by
  apply set_ext; intro i hi
  unfold rng
  rw [BitVec.getLsbD_and, getLsbD_upto _ _ _ hi]
  have h1 : (0 : Int) ≤ i := by omega
  have h2 : (i : Int) ≤ 255 := by omega
  simp [hi, h1, h2]
attribute [local go_sem] setCell_drewN alloc_drewN
set_option maxHeartbeats 400000 in
set_option maxHeartbeats 400000 in
theorem not_any (S : BitVec 256) (w : World) :
    Calls Tryd.prog 65 #[.agg #[.int .u64 (wd S 0), .int .u64 (wd S 1), .int .u64 (wd S 2), .int .u64 (wd S 3)]] w fun e w' => e = .returned (.agg #[.int .u64 (wd (~~~S) 0), .int .u64 (wd (~~~S) 1), .int .u64 (wd (~~~S) 2), .int .u64 (wd (~~~S) 3)]) ∧ Below w.heap.size w w' := by
  go_enter Tryd.func65, Tryd.ntmps65
  go_wp2_with fail
  go_region_with (first
    | (go_at_call 81; refine (range_any 0 255 _).mono ?_; rintro e w1 ⟨rfl, hb1⟩; obtain ⟨hc1, hf1⟩ := bcell hb1; have hz1 : w.heap.size + 1 < w1.heap.size := (by have := hb1.size; simp at this; omega); have hy1 : w.heap.size < w1.heap.size := (by omega))
    | (go_at_call 80; refine (wbwS_andNot (rng 0 255) S _).mono ?_; rintro e w2 ⟨rfl, hb2⟩; obtain ⟨hc2, hf2⟩ := bcell hb2; have hz2 : w.heap.size + 1 < w2.heap.size := (by have := hb2.size; omega); have hy2 : w.heap.size < w2.heap.size := (by omega)))
  all_goals
    have hB : Below w.heap.size w w2 := ((((Below.refl _ _).alloc (Nat.le_refl _) _).alloc (by simp) _).drew.trans (hb1.mono (by simp; omega))).trans (hb2.mono (by omega))
    go_wp2_with fail
    exact bodyPost_ret (v := .agg #[.int .u64 (wd (rng 0 255 &&& ~~~S) 0), .int .u64 (wd (rng 0 255 &&& ~~~S) 1), .int .u64 (wd (rng 0 255 &&& ~~~S) 2), .int .u64 (wd (rng 0 255 &&& ~~~S) 3)]) (by simp [results, Tryd.results65, go_sem, hc1, hc2, hz1]) rfl ⟨by rw [full_and], (((hB.setCell (by simp) _).setCell (by simp) _).setCell (by simp) _).setCell (by simp) _⟩
end Go.Proofs.YtbeohmcmphebhaaDoor
namespace Go.Proofs.YtbeohmcmphebhaaDoor
open Go.RowKit

attribute [local go_sem] setCell_drewN alloc_drewN
set_option maxHeartbeats 400000 in
theorem or_any (a b : Int) (w : World) :
    Calls Tryd.prog 112 #[.int .u64 a, .int .u64 b] w fun e w' => e = .returned (.int .u64 (bits .or .u64 a b)) ∧ w' = w := by
  go_enter Tryd.func112, Tryd.ntmps112
  go_wp2
  go_ret
  exact ⟨rfl, rfl⟩

set_option maxHeartbeats 400000 in
set_option maxHeartbeats 4000000 in
theorem wbw_or (s0 s1 s2 s3 t0 t1 t2 t3 : Int) (w : World) :
    Calls Tryd.prog 80 #[.agg #[.int .u64 s0, .int .u64 s1, .int .u64 s2, .int .u64 s3], .agg #[.int .u64 t0, .int .u64 t1, .int .u64 t2, .int .u64 t3], .func (.func 112) #[] #[]] w fun e w' => e = .returned (.agg #[.int .u64 (bits .or .u64 s0 t0), .int .u64 (bits .or .u64 s1 t1), .int .u64 (bits .or .u64 s2 t2), .int .u64 (bits .or .u64 s3 t3)]) ∧ Below w.heap.size w w' := by
  go_enter Tryd.func80, Tryd.ntmps80
  go_wp2_with fail
  go_loopw [8, 9] (fun _ i wx => ∃ (n : Nat) (x0 x1 x2 x3 : Int), wx = ((((w.alloc (.cells #[.int .u64 s0, .int .u64 s1, .int .u64 s2, .int .u64 s3] 24)).alloc (.cells #[.int .u64 t0, .int .u64 t1, .int .u64 t2, .int .u64 t3] 24)).alloc (.cells #[.int .u64 0, .int .u64 0, .int .u64 0, .int .u64 0] 24)).alloc (.cells #[.int .u64 x0, .int .u64 x1, .int .u64 x2, .int .u64 x3] 24)).drewN n ∧ ((i = .int .i64 0 ∧ x0 = 0 ∧ x1 = 0 ∧ x2 = 0 ∧ x3 = 0) ∨ (i = .int .i64 1 ∧ x0 = (bits .or .u64 s0 t0) ∧ x1 = 0 ∧ x2 = 0 ∧ x3 = 0) ∨ (i = .int .i64 2 ∧ x0 = (bits .or .u64 s0 t0) ∧ x1 = (bits .or .u64 s1 t1) ∧ x2 = 0 ∧ x3 = 0) ∨ (i = .int .i64 3 ∧ x0 = (bits .or .u64 s0 t0) ∧ x1 = (bits .or .u64 s1 t1) ∧ x2 = (bits .or .u64 s2 t2) ∧ x3 = 0) ∨ (i = .int .i64 4 ∧ x0 = (bits .or .u64 s0 t0) ∧ x1 = (bits .or .u64 s1 t1) ∧ x2 = (bits .or .u64 s2 t2) ∧ x3 = (bits .or .u64 s3 t3)))) (fun _ i _ => 4 - (intOf i).toNat)
  case atStart => exact ⟨0, 0, 0, 0, 0, rfl, .inl ⟨rfl, rfl, rfl, rfl, rfl⟩⟩
  case round =>
    obtain ⟨n, x0, x1, x2, x3, rfl, ⟨rfl, rfl, rfl, rfl, rfl⟩ | ⟨rfl, rfl, rfl, rfl, rfl⟩ | ⟨rfl, rfl, rfl, rfl, rfl⟩ | ⟨rfl, rfl, rfl, rfl, rfl⟩ | ⟨rfl, rfl, rfl, rfl, rfl⟩⟩ := hrel
    · go_wp2_with fail
      go_region_with (go_at_call 112; refine (or_any _ _ _).mono ?_; rintro e w' ⟨rfl, rfl⟩)
      all_goals (go_wp2_with fail)
      all_goals (go_roundw)
      all_goals first | exact ⟨n + 1, _, _, _, _, rfl, .inr (.inl ⟨rfl, rfl, rfl, rfl, rfl⟩)⟩ | (simp [intOf])
    · go_wp2_with fail
      go_region_with (go_at_call 112; refine (or_any _ _ _).mono ?_; rintro e w' ⟨rfl, rfl⟩)
      all_goals (go_wp2_with fail)
      all_goals (go_roundw)
      all_goals first | exact ⟨n + 1, _, _, _, _, rfl, .inr (.inr (.inl ⟨rfl, rfl, rfl, rfl, rfl⟩))⟩ | (simp [intOf])
    · go_wp2_with fail
      go_region_with (go_at_call 112; refine (or_any _ _ _).mono ?_; rintro e w' ⟨rfl, rfl⟩)
      all_goals (go_wp2_with fail)
      all_goals (go_roundw)
      all_goals first | exact ⟨n + 1, _, _, _, _, rfl, .inr (.inr (.inr (.inl ⟨rfl, rfl, rfl, rfl, rfl⟩)))⟩ | (simp [intOf])
    · go_wp2_with fail
      go_region_with (go_at_call 112; refine (or_any _ _ _).mono ?_; rintro e w' ⟨rfl, rfl⟩)
      all_goals (go_wp2_with fail)
      all_goals (go_roundw)
      all_goals first | exact ⟨n + 1, _, _, _, _, rfl, .inr (.inr (.inr (.inr (⟨rfl, rfl, rfl, rfl, rfl⟩))))⟩ | (simp [intOf])
    · go_wp2_with fail
      exact bodyPost_ret (v := .agg #[.int .u64 (bits .or .u64 s0 t0), .int .u64 (bits .or .u64 s1 t1), .int .u64 (bits .or .u64 s2 t2), .int .u64 (bits .or .u64 s3 t3)]) (by simp [results, Tryd.results80, go_sem]) rfl ⟨rfl, below4 _ _ _ _ _ _⟩

set_option maxHeartbeats 4000000 in
theorem wbwS_or (S T : BitVec 256) (w : World) :
    Calls Tryd.prog 80 #[.agg #[.int .u64 (wd S 0), .int .u64 (wd S 1), .int .u64 (wd S 2), .int .u64 (wd S 3)], .agg #[.int .u64 (wd T 0), .int .u64 (wd T 1), .int .u64 (wd T 2), .int .u64 (wd T 3)], .func (.func 112) #[] #[]] w fun e w' => e = .returned (.agg #[.int .u64 (wd (S ||| T) 0), .int .u64 (wd (S ||| T) 1), .int .u64 (wd (S ||| T) 2), .int .u64 (wd (S ||| T) 3)]) ∧ Below w.heap.size w w' := by
  have h := wbw_or (wd S 0) (wd S 1) (wd S 2) (wd S 3) (wd T 0) (wd T 1) (wd T 2) (wd T 3) w
  rw [bits_or_wd S T 0, bits_or_wd S T 1, bits_or_wd S T 2, bits_or_wd S T 3] at h
  exact h
end Go.Proofs.YtbeohmcmphebhaaDoor
namespace Go.Proofs.YtbeohmcmphebhaaDoor
open Go.RowKit
attribute [local go_sem] setCell_drewN alloc_drewN
set_option maxHeartbeats 400000 in
theorem join_any (S T : BitVec 256) (w : World) :
    Calls Tryd.prog 104 #[.agg #[.int .u64 (wd S 0), .int .u64 (wd S 1), .int .u64 (wd S 2), .int .u64 (wd S 3)], .agg #[.int .u64 (wd T 0), .int .u64 (wd T 1), .int .u64 (wd T 2), .int .u64 (wd T 3)]] w fun e w' => e = .returned (.agg #[.int .u64 (wd (S ||| T) 0), .int .u64 (wd (S ||| T) 1), .int .u64 (wd (S ||| T) 2), .int .u64 (wd (S ||| T) 3)]) ∧ Below w.heap.size w w' := by
  go_enter Tryd.func104, Tryd.ntmps104
  go_wp2_with fail
  refine (wbwS_or S T _).mono ?_
  rintro e w' ⟨rfl, hb⟩
  obtain ⟨hc, hf⟩ := bcell hb
  have hz : w.heap.size + 3 ≤ w'.heap.size := by have := hb.size; simp at this; omega
  have hB : Below w.heap.size w w' := ((((Below.refl _ _).alloc (Nat.le_refl _) _).alloc (by simp) _).alloc (by simp; omega) _).trans (hb.mono (by simp; omega))
  go_wp2_with fail
  exact bodyPost_ret (v := .agg #[.int .u64 (wd (S ||| T) 0), .int .u64 (wd (S ||| T) 1), .int .u64 (wd (S ||| T) 2), .int .u64 (wd (S ||| T) 3)]) (by simp [results, Tryd.results104, go_sem, hc]) rfl ⟨rfl, (((hB.setCell (by simp; omega) _).setCell (by simp; omega) _).setCell (by simp; omega) _).setCell (by simp; omega) _⟩
end Go.Proofs.YtbeohmcmphebhaaDoor
