import Derived.Test.YtomeocofnbnegaaText
import Derived.Test.YtomeocofnbnegaaOps
import Derived.Test.YtomeocofnbnegaaEq
import Derived.WalkKit
import Derived.WalkSpells
import Derived.WalkLawsBesides
import Derived.Deep.RegionHeld3
namespace Go.Proofs.Ytomeocofnbnegaa
open Go.RowKit
attribute [local go_sem] setCell_drewN alloc_drewN eq_arr
/-- Block number N is a variable of type int that holds x. -/
def LiesI (w : World) (N : Nat) (x : Int) : Prop := w.heap[N]? = some (.cells #[.int .i64 x] 3 (0, 0))
theorem LiesI.cell {w : World} {N : Nat} {x : Int} (h : LiesI w N x) : w.cell? ⟨N, 0, none⟩ = some (.int .i64 x) := by
  unfold LiesI at h
  simp [World.cell?, h]
theorem LiesI.lt {w : World} {N : Nat} {x : Int} (h : LiesI w N x) : N < w.heap.size := by
  unfold LiesI at h
  rcases Nat.lt_or_ge N w.heap.size with h1 | h1
  · exact h1
  · rw [Array.getElem?_eq_none h1] at h; cases h
theorem LiesI.below {W w' : World} {N B : Nat} {x : Int} (h : LiesI W N x) (hb : Below B W w') (hN : N < B) : LiesI w' N x := by
  unfold LiesI at h ⊢
  rw [hb.block N hN]; exact h
theorem LiesI.alloc {w : World} {N : Nat} {x : Int} (h : LiesI w N x) (o : Obj) : LiesI (w.alloc o) N x := by
  have := h.lt
  unfold LiesI at h ⊢
  rw [Below.heap_alloc _ _ _ this]; exact h
theorem LiesI.new (w : World) (x : Int) : LiesI (w.alloc (.cells #[.int .i64 x] 3)) w.heap.size x := by
  show (w.heap.push _)[w.heap.size]? = _
  simp

def Keeps1 (w : World) (S : BitVec 256) (low high : Int) (w' : World) : Prop := Below w.heap.size w w' ∧ Lies w' w.heap.size #[.int .u64 (wd S 0), .int .u64 (wd S 1), .int .u64 (wd S 2), .int .u64 (wd S 3)] ∧ LiesI w' (w.heap.size + 1) low ∧ LiesI w' (w.heap.size + 1 + 1) high ∧ w'.cell? ⟨w.heap.size, 0, none⟩ = some (.int .u64 (wd S 0)) ∧ w'.cell? ⟨w.heap.size, 1, none⟩ = some (.int .u64 (wd S 1)) ∧ w'.cell? ⟨w.heap.size, 2, none⟩ = some (.int .u64 (wd S 2)) ∧ w'.cell? ⟨w.heap.size, 3, none⟩ = some (.int .u64 (wd S 3)) ∧ w'.cell? ⟨w.heap.size + 1, 0, none⟩ = some (.int .i64 low) ∧ w'.cell? ⟨w.heap.size + 1 + 1, 0, none⟩ = some (.int .i64 high)
theorem keeps1_of {w w' : World} {S : BitVec 256} {low high : Int} (hB : Below w.heap.size w w') (hS : Lies w' w.heap.size #[.int .u64 (wd S 0), .int .u64 (wd S 1), .int .u64 (wd S 2), .int .u64 (wd S 3)]) (hl : LiesI w' (w.heap.size + 1) low) (hh : LiesI w' (w.heap.size + 1 + 1) high) : Keeps1 w S low high w' :=
  ⟨hB, hS, hl, hh, by rw [hS.cell]; rfl, by rw [hS.cell]; rfl, by rw [hS.cell]; rfl, by rw [hS.cell]; rfl, hl.cell, hh.cell⟩
theorem keeps1_call {w W w' : World} {S : BitVec 256} {low high : Int} (h : Keeps1 w S low high W) (hb : Below W.heap.size W w') : Keeps1 w S low high w' := by
  obtain ⟨hB, hS, hl, hh, _⟩ := h
  have := hS.lt
  exact keeps1_of (hB.trans (hb.mono (by omega))) (hS.below hb hS.lt) (hl.below hb hl.lt) (hh.below hb hh.lt)
theorem keeps1_drew {w w' : World} {S : BitVec 256} {low high : Int} (h : Keeps1 w S low high w') : Keeps1 w S low high w'.drew := by
  obtain ⟨hB, hS, hl, hh, _⟩ := h
  exact keeps1_of hB.drew hS.drew hl hh
theorem keeps1_start (w : World) (S : BitVec 256) (low high : Int) : Keeps1 w S low high (((w.alloc (.cells #[.int .u64 (wd S 0), .int .u64 (wd S 1), .int .u64 (wd S 2), .int .u64 (wd S 3)] 24)).alloc (.cells #[.int .i64 low] 3)).alloc (.cells #[.int .i64 high] 3)) :=
  keeps1_of ((((Below.refl _ _).alloc (Nat.le_refl _) _).alloc (by simp) _).alloc (by simp; omega) _) (((Lies.new _ _).alloc _).alloc _)
    (by have h := (LiesI.new (w.alloc (.cells #[.int .u64 (wd S 0), .int .u64 (wd S 1), .int .u64 (wd S 2), .int .u64 (wd S 3)] 24)) low).alloc (.cells #[.int .i64 high] 3); rw [World.size_alloc] at h; exact h)
    (by have h := LiesI.new ((w.alloc (.cells #[.int .u64 (wd S 0), .int .u64 (wd S 1), .int .u64 (wd S 2), .int .u64 (wd S 3)] 24)).alloc (.cells #[.int .i64 low] 3)) high; rw [World.size_alloc, World.size_alloc] at h; exact h)

set_option maxHeartbeats 1000000 in
theorem clo10 (low high : Int) (N M k : Nat) (w : World) (hl : LiesI w N low) (hh : LiesI w M high) :
    Calls Try.prog 10 #[.int .i64 k, .pointer (some ⟨N, 0, none⟩), .pointer (some ⟨M, 0, none⟩)] w fun e w' => e = .returned (.bool (decide (low ≤ (k : Int)) && decide ((k : Int) ≤ high))) ∧ Below w.heap.size w w' := by
  have cl := hl.cell
  have ch := hh.cell
  by_cases h1 : low ≤ (k : Int)
  · have h2 : decide (low ≤ (k : Int)) = true := by simpa using h1
    go_enter Try.func10, Try.ntmps10
    go_wp2_with fail
    go_ret
    exact ⟨by simp [h1], Below.refl _ _⟩
  · have h2 : decide (low ≤ (k : Int)) = false := by simpa using h1
    go_enter Try.func10, Try.ntmps10
    go_wp2_with fail
    go_ret
    exact ⟨by simp, Below.refl _ _⟩
theorem whereIn (low high : Int) (N M : Nat) (w : World) (hl : LiesI w N low) (hh : LiesI w M high) :
    Calls Try.prog 9 #[.func (.func 10) #[] #[.pointer (some ⟨N, 0, none⟩), .pointer (some ⟨M, 0, none⟩)]] w fun e w' => e = .returned (.agg #[.int .u64 (wd (rng low high) 0), .int .u64 (wd (rng low high) 1), .int .u64 (wd (rng low high) 2), .int .u64 (wd (rng low high) 3)]) ∧ Below w.heap.size w w' :=
  where_10 (.pointer (some ⟨N, 0, none⟩)) (.pointer (some ⟨M, 0, none⟩)) (fun k => decide (low ≤ (k : Int)) && decide ((k : Int) ≤ high)) w (fun k w' _ hb => clo10 low high N M k w' (hl.below hb hl.lt) (hh.below hb hh.lt))

theorem fst_start (S : BitVec 256) : fst S (255 + 1) = -1 := fst_out S 256 (by omega)
theorem fst_end (S : BitVec 256) (a x : Int) (h1 : -1 ≤ x) (h2 : x ≤ 255) (h3 : a ≤ x + 1 ∨ x = 255) (h4 : ¬ (a ≤ x ∧ 0 ≤ x)) : fst S (x + 1) = fst S a := by
  rcases h3 with h3 | h3
  · unfold fst
    rw [show (x + 1).toNat = a.toNat from by omega]
  · subst h3
    have h5 : 255 < a.toNat := by omega
    rw [fst_start]
    unfold fst
    rw [show 256 - a.toNat = 0 from by omega, ff]
set_option maxHeartbeats 8000000 in
theorem says_any (S : BitVec 256) (low high a : Int) (b : Nat) (w : World) (hb256 : b < 256) :
    Calls Try.prog 3 #[.agg #[.int .u64 (wd S 0), .int .u64 (wd S 1), .int .u64 (wd S 2), .int .u64 (wd S 3)], .int .i64 low, .int .i64 high, .int .i64 a, .int .u8 b] w fun e w' => e = .returned (.bool true) ∧ Below w.heap.size w w' := by
  go_enter Try.func3, Try.ntmps3
  go_wp2_with fail
  go_loopw [11, 12] (fun f x wx => ∃ x' : Int, x = .int .i64 x' ∧ f = .int .i64 (fst S (x' + 1)) ∧ -1 ≤ x' ∧ x' ≤ 255 ∧ (a ≤ x' + 1 ∨ x' = 255) ∧ Hid (Keeps1 w S low high wx)) (fun _ x _ => (intOf x + 1).toNat)
  case atStart => exact ⟨255, rfl, by rw [fst_start], by omega, by omega, .inr rfl, keeps1_start w S low high⟩
  case round =>
    obtain ⟨x, rfl, rfl, hx1, hx2, hx3, HK⟩ := hrel
    by_cases hx4 : a ≤ x ∧ 0 ≤ x
    · obtain ⟨hx5, hx6⟩ := hx4
      obtain ⟨j, rfl⟩ := Int.eq_ofNat_of_zero_le hx6
      have hL := HK.out.2.1
      have hc := hL.cell
      have hg : decide (a ≤ (j : Int)) = true := by simpa using hx5
      have H3 : Hid (a ≤ (j : Int) + 1 ∨ (j : Int) = 255) := hx3
      clear hx3
      cases hi : inS S j
      · have HI : Hid (inS S j = false) := hi
        clear hi
        go_wp2_with fail
        refine (rhas_any S j _ (by omega)).mono ?_
        rintro e w1 ⟨rfl, hb⟩
        rw [HI.out]
        have HK1 : Hid (Keeps1 w S low high w1) := keeps1_call HK.out hb
        clear HK hL hc hb
        go_wp2_with fail
        refine ⟨⟨(j : Int) - 1, rfl, ?_, by omega, by omega, .inl (by omega), HK1⟩, by simp [intOf]⟩
        rw [show (j : Int) - 1 + 1 = (j : Int) from by omega, fst_no S j (by omega) HI.out]; rfl
      · have HI : Hid (inS S j = true) := hi
        clear hi
        go_wp2_with fail
        refine (rhas_any S j _ (by omega)).mono ?_
        rintro e w1 ⟨rfl, hb⟩
        rw [HI.out]
        have HK1 : Hid (Keeps1 w S low high w1) := keeps1_call HK.out hb
        clear HK hL hc hb
        go_wp2_with fail
        refine ⟨⟨(j : Int) - 1, rfl, ?_, by omega, by omega, .inl (by omega), HK1⟩, by simp [intOf]⟩
        rw [show (j : Int) - 1 + 1 = (j : Int) from by omega, fst_yes S j (by omega) HI.out]
    · rw [fst_end S a x hx1 hx2 hx3 hx4]
      have hlen : (⟨(bl S 256).toArray⟩ : ByteArray).size = cf S 0 256 := bl_length S 256
      have hb1 : (b : Int) ≤ 255 := by omega
      have hcv : Hid (IntKind.i64.wrap (b : Int) = (b : Int)) := by unfold Hid; simp [IntKind.wrap, IntKind.bits, IntKind.signed]; omega
      have H4 : Hid (¬ (a ≤ x ∧ 0 ≤ x)) := hx4
      clear hx1 hx2 hx3 hx4
      by_cases hg : a ≤ x
      · have hg1 : decide (a ≤ x) = true := by simpa using hg
        have hg2 : decide (0 ≤ x) = false := by have := H4.out; simp; omega
        clear hg
        go_wp2_with fail
        have HD := keeps1_drew HK.out
        go_region_held3 (fun w' => Below w.heap.size w w' ∧ Lies w' w.heap.size #[.int .u64 (wd S 0), .int .u64 (wd S 1), .int .u64 (wd S 2), .int .u64 (wd S 3)] ∧ LiesI w' (w.heap.size + 1) low ∧ LiesI w' (w.heap.size + 1 + 1) high ∧ w'.cell? ⟨w.heap.size, 0, none⟩ = some (.int .u64 (wd S 0)) ∧ w'.cell? ⟨w.heap.size, 1, none⟩ = some (.int .u64 (wd S 1)) ∧ w'.cell? ⟨w.heap.size, 2, none⟩ = some (.int .u64 (wd S 2)) ∧ w'.cell? ⟨w.heap.size, 3, none⟩ = some (.int .u64 (wd S 3)) ∧ w'.cell? ⟨w.heap.size + 1, 0, none⟩ = some (.int .i64 low) ∧ w'.cell? ⟨w.heap.size + 1 + 1, 0, none⟩ = some (.int .i64 high)) (first | exact keeps1_call (w := w) (S := S) (low := low) (high := high) (by assumption) hb | assumption) (first
          | (go_at_call 8; refine (range_any _ _ _).mono ?_; rintro e w1 ⟨rfl, hb⟩)
          | (go_at_call 9; refine (whereIn low high _ _ _ (by go_split_ands; assumption) (by go_split_ands; assumption)).mono ?_; rintro e w1 ⟨rfl, hb⟩)
          | (go_at_call 11; refine (has_any _ _ _ hb256).mono ?_; rintro e w1 ⟨rfl, hb⟩)
          | (go_at_call 7; (try rw [hcv.out]); refine (rhas_any _ _ _ hb256).mono ?_; rintro e w1 ⟨rfl, hb⟩)
          | (go_at_call 12; refine (count_any _ _).mono ?_; rintro e w1 ⟨rfl, hb⟩)
          | (go_at_call 13; refine (rbytes_any _ _).mono ?_; rintro e w1 ⟨rfl, hb⟩)
          | (go_at_call 14; refine (first_any _ _ _).mono ?_; rintro e w1 ⟨rfl, hb⟩)
          | (go_at_call 15; refine (bytes_any _ _).mono ?_; rintro e w1 ⟨rfl, hb⟩))
        all_goals
          have hK1 : Keeps1 w S low high w1 := by assumption
          go_wp2_with fail
          go_ret
          exact ⟨rfl, hK1.1⟩
      · have hg1 : decide (a ≤ x) = false := by simpa using hg
        clear hg
        go_wp2_with fail
        have HD := keeps1_drew HK.out
        go_region_held3 (fun w' => Below w.heap.size w w' ∧ Lies w' w.heap.size #[.int .u64 (wd S 0), .int .u64 (wd S 1), .int .u64 (wd S 2), .int .u64 (wd S 3)] ∧ LiesI w' (w.heap.size + 1) low ∧ LiesI w' (w.heap.size + 1 + 1) high ∧ w'.cell? ⟨w.heap.size, 0, none⟩ = some (.int .u64 (wd S 0)) ∧ w'.cell? ⟨w.heap.size, 1, none⟩ = some (.int .u64 (wd S 1)) ∧ w'.cell? ⟨w.heap.size, 2, none⟩ = some (.int .u64 (wd S 2)) ∧ w'.cell? ⟨w.heap.size, 3, none⟩ = some (.int .u64 (wd S 3)) ∧ w'.cell? ⟨w.heap.size + 1, 0, none⟩ = some (.int .i64 low) ∧ w'.cell? ⟨w.heap.size + 1 + 1, 0, none⟩ = some (.int .i64 high)) (first | exact keeps1_call (w := w) (S := S) (low := low) (high := high) (by assumption) hb | assumption) (first
          | (go_at_call 8; refine (range_any _ _ _).mono ?_; rintro e w1 ⟨rfl, hb⟩)
          | (go_at_call 9; refine (whereIn low high _ _ _ (by go_split_ands; assumption) (by go_split_ands; assumption)).mono ?_; rintro e w1 ⟨rfl, hb⟩)
          | (go_at_call 11; refine (has_any _ _ _ hb256).mono ?_; rintro e w1 ⟨rfl, hb⟩)
          | (go_at_call 7; (try rw [hcv.out]); refine (rhas_any _ _ _ hb256).mono ?_; rintro e w1 ⟨rfl, hb⟩)
          | (go_at_call 12; refine (count_any _ _).mono ?_; rintro e w1 ⟨rfl, hb⟩)
          | (go_at_call 13; refine (rbytes_any _ _).mono ?_; rintro e w1 ⟨rfl, hb⟩)
          | (go_at_call 14; refine (first_any _ _ _).mono ?_; rintro e w1 ⟨rfl, hb⟩)
          | (go_at_call 15; refine (bytes_any _ _).mono ?_; rintro e w1 ⟨rfl, hb⟩))
        all_goals
          have hK1 : Keeps1 w S low high w1 := by assumption
          go_wp2_with fail
          go_ret
          exact ⟨rfl, hK1.1⟩
end Go.Proofs.Ytomeocofnbnegaa
