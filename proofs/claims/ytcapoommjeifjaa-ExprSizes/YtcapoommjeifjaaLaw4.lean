import Derived.Test.YtcapoommjeifjaaRefs
import Derived.Test.YtcapoommjeifjaaParts
namespace Go.Proofs.Ytcapoommjeifjaa
open Go.RowKit
set_option linter.unusedVariables false
theorem Ss.equal {w : World} {N N' : Nat} {v v' : Value} {l : List ByteArray} (h : Ss w N v l) (h' : Ss w N' v' l) (hl : l.length ≤ 100) : Calls Try.prog 15 #[v, v'] w fun e w' => e = .returned (.bool true) ∧ Below w.heap.size w w' := by
  rcases h.2 with ⟨rfl, h0⟩ | ⟨g, cap, cur, rfl, _⟩
  · obtain ⟨a, c, rfl⟩ := h'.form
    rw [h0]
    exact (Try.slices_Equal_string_empty none a 0 0 c w (by omega)).mono fun e w' ⟨h1, h2⟩ => ⟨h1, by rw [h2]; exact Below.refl _ _⟩
  · rcases h'.2 with ⟨rfl, h0⟩ | ⟨g', cap', cur', rfl, _⟩
    · rw [h0]
      exact (Try.slices_Equal_string_empty _ none cap 0 0 w (by omega)).mono fun e w' ⟨h1, h2⟩ => ⟨h1, by rw [h2]; exact Below.refl _ _⟩
    · refine (Try.slices_Equal_string g 0 l.length cap g' 0 l.length cap' l l w (Nat.le_refl _) (Nat.le_refl _) (by omega) (by omega) h.cells h'.cells).mono fun e w' ⟨h1, h2⟩ => ⟨?_, ?_⟩
      · rw [h1]; simp
      · obtain ⟨q, rfl⟩ := h2
        exact ⟨rfl, rfl, rfl, Nat.le_refl _, fun _ _ => rfl⟩
theorem refsR_len (e : Ex) : (refsR e).length ≤ 60 := by
  unfold refsR
  split
  · rename_i h
    have h1 := refsOf_len (e.nodes 1)
    have h2 := check_len e h
    omega
  · simp
set_option maxRecDepth 20000 in
set_option maxHeartbeats 4000000 in
theorem sizes_any (e : Ex) (w : World) (hin : e.In w.heap.size w) :
    Calls Try.prog 4 #[e.val] w fun r W' => r = .returned (.bool true) ∧ Below w.heap.size w W' := by
  have hA := (Below.refl w.heap.size w).alloc (Nat.le_refl _) (.cells e.cells 27)
  have bE := BoxN.new w 27 e.cells
  have hsz := size_any e (w.alloc (.cells e.cells 27)) (hin.grow hA)
  have HE : Hid (∀ {W1 : World}, Below (w.alloc (.cells e.cells 27)).heap.size (w.alloc (.cells e.cells 27)) W1 → BoxN W1 w.heap.size 27 e.cells ∧ Below w.heap.size w W1) := fun hb => ⟨bE.below hb (by simp), hA.trans (hb.mono (by simp))⟩
  have HN : Hid (∀ {W1 W2 : World}, BoxN W1 w.heap.size 27 e.cells ∧ Below w.heap.size w W1 → Below W1.heap.size W1 W2 → BoxN W2 w.heap.size 27 e.cells ∧ Below w.heap.size w W2) := fun h hb => ⟨h.1.below hb h.1.lt, h.2.trans (hb.mono h.2.size)⟩
  have hrf : ∀ W, Below w.heap.size w W → _ := fun W h => refs_any e W (hin.grow h)
  have hrx : ∀ W, Below w.heap.size w W → _ := fun W h => rexpr_any e W (hin.grow h)
  have hrn : ∀ W, Below w.heap.size w W → _ := fun W h => rnodes_any e W (hin.grow h)
  have hrr : ∀ W, Below w.heap.size w W → _ := fun W h => rrefs_any e W (hin.grow h)
  rw [val_eq] at hsz hrf hrx hrn hrr ⊢
  rw [cells_eq] at hsz
  clear hA bE
  go_enter Try.func4, Try.ntmps4
  by_cases h0 : check e = 0
  · have hre : rnodes e = e.nodes 1 := rnodes_ok e h0
    have hR2 : refsR e = refsOf (e.nodes 1) := by unfold refsR; rw [if_pos h0]
    have hlR := refsR_len e
    rw [hre] at hrn hrr
    rw [← hR2] at hrr
    have hln : (e.nodes 1).length ≤ 60 := check_len e h0
    have hpos : 0 < (e.nodes 1).length := by rw [nodes_eq]; simp
    have hsR : sizeR e = ((e.nodes 1).length : Int) := by unfold sizeR; rw [if_pos h0]
    rw [hsR] at hsz
    simp only [h0] at hsz hrf hrx
    clear hre hR2 hsR h0
    generalize refsR e = rf at *
    generalize e.nodes 1 = nl at *
    go_wp2_with (first
      | (go_at_call 12; refine hsz.mono ?_; rintro r W1 ⟨rfl, hb1⟩; rw [← cells_eq] at hb1; have k1 := HE.out hb1; have cE1 := k1.1.cell; rw [cells_eq] at cE1; clear hb1 HE hsz)
      | (go_at_call 13; refine (hrf _ k1.2).mono ?_; rintro r W2 ⟨v2, rfl, hS2, hb2⟩; have k2 := HN.out k1 hb2; have cE2 := k2.1.cell; rw [cells_eq] at cE2; clear hb2 cE1)
      | (go_at_call 11; refine (hrx _ k2.2).mono ?_; rintro r W3 ⟨rfl, hb3⟩; have k3 := HN.out k2 hb3; have cE3 := k3.1.cell; rw [cells_eq] at cE3; have hS3 := hS2.below hb3; clear hb3 cE2)
      | (go_at_call 14; refine (hrn _ k3.2).mono ?_; rintro r W4 ⟨v4, rfl, hN4, hb4⟩; obtain ⟨g4, cap4, rfl, -, -⟩ := World.ownsRow.form hN4 hpos; have k4 := HN.out k3 hb4; have cE4 := k4.1.cell; rw [cells_eq] at cE4; have hS4 := hS3.below hb4; clear hb4 cE3 hN4)
      | (go_at_call 16; refine (hrr _ k4.2).mono ?_; rintro r W5 ⟨v5, rfl, hT5, hb5⟩; have k5 := HN.out k4 hb5; have hS5 := hS4.below hb5; have heq := hS5.equal hT5 (by omega); clear hb5 cE4)
      | (go_at_call 15; refine heq.mono ?_; rintro r W6 ⟨rfl, hb6⟩))
    go_ret
    exact ⟨rfl, (HN.out k5 hb6).2⟩
  · have g : (check e != 0) = true := by simpa using h0
    have hsR : sizeR e = 0 := sizeR_bad e h0
    have hR2 : refsR e = [] := by unfold refsR; rw [if_neg h0]
    rw [hsR] at hsz
    rw [hR2] at hrf
    have hcc : (check e == check e) = true := by simp
    go_wp2_with (first
      | (go_at_call 12; refine hsz.mono ?_; rintro r W1 ⟨rfl, hb1⟩; rw [← cells_eq] at hb1; have k1 := HE.out hb1; have cE1 := k1.1.cell; rw [cells_eq] at cE1; clear hb1 HE hsz)
      | (go_at_call 13; refine (hrf _ k1.2).mono ?_; rintro r W2 ⟨v2, rfl, hS2, hb2⟩; obtain ⟨a2, c2, rfl⟩ := hS2.form; have k2 := HN.out k1 hb2; have cE2 := k2.1.cell; rw [cells_eq] at cE2; clear hb2 cE1)
      | (go_at_call 11; refine (hrx _ k2.2).mono ?_; rintro r W3 ⟨rfl, hb3⟩; have k3 := HN.out k2 hb3; clear hb3 cE2))
    go_ret
    exact ⟨rfl, k3.2⟩
end Go.Proofs.Ytcapoommjeifjaa
