import Derived.Test.YtcapoommjeifjaaProg
import Derived.Test.YtcapoommjeifjaaQWords
import Derived.Test.YtcapoommjeifjaaQRange
namespace Go.Proofs.Ytcapoommjeifjaa
open Go.RowKit
theorem bcell {W w1 : World} (hb : Below W.heap.size W w1) : (∀ b o, b < W.heap.size → w1.cell? ⟨b, o, none⟩ = W.cell? ⟨b, o, none⟩) ∧ (∀ b o, b < W.heap.size → w1.frozen? ⟨b, o, none⟩ = W.frozen? ⟨b, o, none⟩) :=
  ⟨fun b o h => hb.cell (p := ⟨b, o, none⟩) h, fun b o h => hb.frozen (p := ⟨b, o, none⟩) h⟩
theorem full_and (S : BitVec 256) : rng 0 255 &&& S = S := by
  apply set_ext; intro i hi
  unfold rng
  rw [BitVec.getLsbD_and, getLsbD_upto _ _ _ hi]
  have h1 : (0 : Int) ≤ i := by omega
  have h2 : (i : Int) ≤ 255 := by omega
  simp [hi, h1, h2]
attribute [local go_sem] setCell_drewN alloc_drewN
set_option maxHeartbeats 400000 in
set_option maxHeartbeats 400000 in
theorem not_any (S : BitVec 256) (w : World) :
    Calls Try.prog 55 #[.agg #[.int .u64 (wd S 0), .int .u64 (wd S 1), .int .u64 (wd S 2), .int .u64 (wd S 3)]] w fun e w' => e = .returned (.agg #[.int .u64 (wd (~~~S) 0), .int .u64 (wd (~~~S) 1), .int .u64 (wd (~~~S) 2), .int .u64 (wd (~~~S) 3)]) ∧ Below w.heap.size w w' := by
  go_enter Try.func55, Try.ntmps55
  go_wp2_with fail
  go_region_with (first
    | (go_at_call 64; refine (range_any 0 255 _).mono ?_; rintro e w1 ⟨rfl, hb1⟩; obtain ⟨hc1, hf1⟩ := bcell hb1; have hz1 : w.heap.size + 1 < w1.heap.size := (by have := hb1.size; simp at this; omega); have hy1 : w.heap.size < w1.heap.size := (by omega))
    | (go_at_call 63; refine (wbwS_andNot (rng 0 255) S _).mono ?_; rintro e w2 ⟨rfl, hb2⟩; obtain ⟨hc2, hf2⟩ := bcell hb2; have hz2 : w.heap.size + 1 < w2.heap.size := (by have := hb2.size; omega); have hy2 : w.heap.size < w2.heap.size := (by omega)))
  all_goals
    have hB : Below w.heap.size w w2 := ((((Below.refl _ _).alloc (Nat.le_refl _) _).alloc (by simp) _).drew.trans (hb1.mono (by simp; omega))).trans (hb2.mono (by omega))
    go_wp2_with fail
    exact bodyPost_ret (v := .agg #[.int .u64 (wd (rng 0 255 &&& ~~~S) 0), .int .u64 (wd (rng 0 255 &&& ~~~S) 1), .int .u64 (wd (rng 0 255 &&& ~~~S) 2), .int .u64 (wd (rng 0 255 &&& ~~~S) 3)]) (by simp [results, Try.results55, go_sem, hc1, hc2, hz1]) rfl ⟨by rw [full_and], (((hB.setCell (by simp) _).setCell (by simp) _).setCell (by simp) _).setCell (by simp) _⟩
end Go.Proofs.Ytcapoommjeifjaa
