import Derived.Test.YtomeocofnbnegaaText
import Derived.Test.YtomeocofnbnegaaOps
import Derived.Test.YtomeocofnbnegaaJoins
import Derived.WalkKit
import Derived.WalkSpells
import Derived.WalkLawsBesides
import Derived.Deep.RegionHeld3
namespace Go.Proofs.Ytomeocofnbnegaa
open Go.RowKit
attribute [local go_sem] setCell_drewN alloc_drewN
theorem cf_join (S T : BitVec 256) (a n : Nat) : cf (S ||| T) a n + cf (S &&& T) a n = cf S a n + cf T a n := by
  induction n generalizing a with
  | zero => simp [cf]
  | succ n ih =>
    have h := ih (a + 1)
    simp only [cf]
    have e1 : inS (S ||| T) a = (inS S a || inS T a) := by unfold inS; simp
    have e2 : inS (S &&& T) a = (inS S a && inS T a) := by unfold inS; simp
    rw [e1, e2]
    cases inS S a <;> cases inS T a <;> simp <;> omega
theorem keeps2_drew {w w' : World} {S T : BitVec 256} (h : Keeps2 w S T w') : Keeps2 w S T w'.drew := keeps2_of h.1.drew h.2.1.drew h.2.2.1.drew
theorem ten : cf (rng 0 9) 0 256 = 10 := by decide +kernel
set_option maxHeartbeats 8000000 in
theorem counts_any (S T : BitVec 256) (w : World) :
    Calls Try.prog 6 #[.agg #[.int .u64 (wd S 0), .int .u64 (wd S 1), .int .u64 (wd S 2), .int .u64 (wd S 3)], .agg #[.int .u64 (wd T 0), .int .u64 (wd T 1), .int .u64 (wd T 2), .int .u64 (wd T 3)]] w fun e w' => e = .returned (.bool true) ∧ Below w.heap.size w w' := by
  have hsum : ((cf (S ||| T) 0 256 : Nat) : Int) + ((cf (S &&& T) 0 256 : Nat) : Int) = ((cf S 0 256 : Nat) : Int) + ((cf T 0 256 : Nat) : Int) := by have := cf_join S T 0 256; omega
  have hl1 : ((cf (S ||| T) 0 256 : Nat) : Int) ≤ 256 := by have := cf_le (S ||| T) 0 256; omega
  have hl2 : ((cf (S &&& T) 0 256 : Nat) : Int) ≤ 256 := by have := cf_le (S &&& T) 0 256; omega
  have hl3 : ((cf S 0 256 : Nat) : Int) ≤ 256 := by have := cf_le S 0 256; omega
  have hl4 : ((cf T 0 256 : Nat) : Int) ≤ 256 := by have := cf_le T 0 256; omega
  go_enter Try.func6, Try.ntmps6
  go_wp2_with fail
  go_region_held3 (fun w' => Below w.heap.size w w' ∧ Lies w' w.heap.size #[.int .u64 (wd S 0), .int .u64 (wd S 1), .int .u64 (wd S 2), .int .u64 (wd S 3)] ∧ Lies w' (w.heap.size + 1) #[.int .u64 (wd T 0), .int .u64 (wd T 1), .int .u64 (wd T 2), .int .u64 (wd T 3)] ∧ w'.cell? ⟨w.heap.size, 0, none⟩ = some (.int .u64 (wd S 0)) ∧ w'.cell? ⟨w.heap.size, 1, none⟩ = some (.int .u64 (wd S 1)) ∧ w'.cell? ⟨w.heap.size, 2, none⟩ = some (.int .u64 (wd S 2)) ∧ w'.cell? ⟨w.heap.size, 3, none⟩ = some (.int .u64 (wd S 3)) ∧ w'.cell? ⟨w.heap.size + 1, 0, none⟩ = some (.int .u64 (wd T 0)) ∧ w'.cell? ⟨w.heap.size + 1, 1, none⟩ = some (.int .u64 (wd T 1)) ∧ w'.cell? ⟨w.heap.size + 1, 2, none⟩ = some (.int .u64 (wd T 2)) ∧ w'.cell? ⟨w.heap.size + 1, 3, none⟩ = some (.int .u64 (wd T 3))) (first | exact keeps2_call (w := w) (S := S) (T := T) (by assumption) hb | exact keeps2_drew (keeps2_start w S T)) (first
    | (go_at_call 16; refine (join_any _ _ _).mono ?_; rintro e w1 ⟨rfl, hb⟩)
    | (go_at_call 18; refine (meet_any _ _ _).mono ?_; rintro e w1 ⟨rfl, hb⟩)
    | (go_at_call 12; refine (count_any _ _).mono ?_; rintro e w1 ⟨rfl, hb⟩; try simp only [ten])
    | (go_at_call 8; refine (range_any _ _ _).mono ?_; rintro e w1 ⟨rfl, hb⟩))
  have hK : Keeps2 w S T w1 := by assumption
  obtain ⟨hB0, hL0, _⟩ := hK
  clear hsum hl1 hl2 hl4
  have hc0 := hL0.cell
  go_wp2_with fail
  refine (first_any S 0 _).mono ?_
  rintro e w2 ⟨rfl, hb2⟩
  have hlt0 := hL0.lt
  have hB2 := hB0.trans (hb2.mono (by omega))
  have hL2 := hL0.below hb2 hlt0
  clear hB0 hL0 hc0 hb2 hlt0
  go_wp2_with fail
  go_loopw [5, 6, 7] (fun t l b wx => ∃ (a : Nat) (m : Int), Hid (m + 1 = (a : Int)) ∧ a ≤ 256 ∧ b = .int .i64 (fst S a) ∧ t = .int .i64 (cf S 0 a : Nat) ∧ l = .int .i64 m ∧ Below w.heap.size w wx ∧ Lies wx w.heap.size #[.int .u64 (wd S 0), .int .u64 (wd S 1), .int .u64 (wd S 2), .int .u64 (wd S 3)]) (fun _ _ b _ => (257 - (if intOf b < 0 then 257 else intOf b)).toNat)
  case atStart => exact ⟨0, -1, by unfold Hid; rfl, by omega, rfl, rfl, rfl, hB2, hL2⟩
  case round =>
    clear hB2 hL2
    obtain ⟨a, m, HM, ha, rfl, rfl, rfl, hB, hL⟩ := hrel
    have hlt := hL.lt
    have hc := hL.cell
    have hcl := cf_le S 0 a
    rcases fst_cases S a ha with ⟨h1, h2, h3⟩ | ⟨k, h1, h2, h3, h4, h5, h6⟩
    · rw [h1]
      rw [h2]
      clear h1 h2 h3 hcl
      go_wp2_with fail
      refine (count_any S _).mono ?_
      rintro e w3 ⟨rfl, hb3⟩
      have hc3 := (hL.below hb3 hlt).cell
      have hB3 := hB.trans (hb3.mono (by omega))
      have hz3 := hb3.size
      clear hc hL hB hb3
      go_wp2_with fail
      refine (bytes_any S _).mono ?_
      rintro e w4 ⟨rfl, hb4⟩
      have hlen : (⟨(bl S 256).toArray⟩ : ByteArray).size = cf S 0 256 := bl_length S 256
      have hB4 := hB3.trans (hb4.mono (by omega))
      go_wp2_with fail
      go_ret
      exact ⟨rfl, hB4⟩
    · rw [h1]
      have H4 : Hid (inS S k = true) := h4
      have H5 : Hid (cf S 0 k = cf S 0 a) := h5
      clear h1 h4 h5 h6
      have hmk : m < (k : Int) := by have := HM.out; omega
      have hg1 : decide ((k : Int) ≤ m) = false := by simp; omega
      have hg2 : decide ((255 : Int) < (k : Int)) = false := by simp; omega
      have hcn : ((cf S 0 a : Nat) : Int) ≤ 256 := by omega
      have H2 : Hid (a ≤ k) := h2
      clear hcl h2 ha
      go_wp2_with fail
      refine (has_any S k _ h3).mono ?_
      rintro e w3 ⟨rfl, hb3⟩
      rw [H4.out]
      have hL3 := hL.below hb3 hlt
      have hB3 := hB.trans (hb3.mono (by omega))
      have hc3 := hL3.cell
      have hlt3 := hL3.lt
      clear hc hL hB hb3 hlt
      go_wp2_with fail
      refine (first_any S ((k : Int) + 1) _).mono ?_
      rintro e w4 ⟨rfl, hb4⟩
      go_wp2_with fail
      exact ⟨⟨k + 1, k, by unfold Hid; omega, by omega, by go_num, by rw [cf_succ, H4.out, H5.out]; go_num, rfl, hB3.trans (hb4.mono (by omega)), hL3.below hb4 hlt3⟩, fst_less S k h3⟩
end Go.Proofs.Ytomeocofnbnegaa
