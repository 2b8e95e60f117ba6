import Derived.Test.YtomeocofnbnegaaEq
import Derived.Test.YtomeocofnbnegaaClosures
import Derived.WalkKit
import Derived.WalkSpells
import Derived.WalkLawsBesides
namespace Go.Proofs.Ytomeocofnbnegaa
open Go.RowKit
attribute [local go_sem] setCell_drewN alloc_drewN eq_arr

def Keeps2 (w : World) (S T : BitVec 256) (w' : World) : Prop := Below w.heap.size w w' ∧ Lies w' w.heap.size #[.int .u64 (wd S 0), .int .u64 (wd S 1), .int .u64 (wd S 2), .int .u64 (wd S 3)] ∧ Lies w' (w.heap.size + 1) #[.int .u64 (wd T 0), .int .u64 (wd T 1), .int .u64 (wd T 2), .int .u64 (wd T 3)] ∧ w'.cell? ⟨w.heap.size, 0, none⟩ = some (.int .u64 (wd S 0)) ∧ w'.cell? ⟨w.heap.size, 1, none⟩ = some (.int .u64 (wd S 1)) ∧ w'.cell? ⟨w.heap.size, 2, none⟩ = some (.int .u64 (wd S 2)) ∧ w'.cell? ⟨w.heap.size, 3, none⟩ = some (.int .u64 (wd S 3)) ∧ w'.cell? ⟨w.heap.size + 1, 0, none⟩ = some (.int .u64 (wd T 0)) ∧ w'.cell? ⟨w.heap.size + 1, 1, none⟩ = some (.int .u64 (wd T 1)) ∧ w'.cell? ⟨w.heap.size + 1, 2, none⟩ = some (.int .u64 (wd T 2)) ∧ w'.cell? ⟨w.heap.size + 1, 3, none⟩ = some (.int .u64 (wd T 3))
theorem keeps2_of {w w' : World} {S T : BitVec 256} (hB : Below w.heap.size w w') (hS : Lies w' w.heap.size #[.int .u64 (wd S 0), .int .u64 (wd S 1), .int .u64 (wd S 2), .int .u64 (wd S 3)]) (hT : Lies w' (w.heap.size + 1) #[.int .u64 (wd T 0), .int .u64 (wd T 1), .int .u64 (wd T 2), .int .u64 (wd T 3)]) : Keeps2 w S T w' :=
  ⟨hB, hS, hT, by rw [hS.cell]; rfl, by rw [hS.cell]; rfl, by rw [hS.cell]; rfl, by rw [hS.cell]; rfl, by rw [hT.cell]; rfl, by rw [hT.cell]; rfl, by rw [hT.cell]; rfl, by rw [hT.cell]; rfl⟩
theorem keeps2_call {w W w' : World} {S T : BitVec 256} (h : Keeps2 w S T W) (hb : Below W.heap.size W w') : Keeps2 w S T w' := by
  obtain ⟨hB, hS, hT, _⟩ := h
  have := hS.lt
  exact keeps2_of (hB.trans (hb.mono (by omega))) (hS.below hb hS.lt) (hT.below hb hT.lt)
theorem keeps2_start (w : World) (S T : BitVec 256) : Keeps2 w S T ((w.alloc (.cells #[.int .u64 (wd S 0), .int .u64 (wd S 1), .int .u64 (wd S 2), .int .u64 (wd S 3)] 24)).alloc (.cells #[.int .u64 (wd T 0), .int .u64 (wd T 1), .int .u64 (wd T 2), .int .u64 (wd T 3)] 24)) :=
  keeps2_of (((Below.refl _ _).alloc (Nat.le_refl _) _).alloc (by simp) _) ((Lies.new _ _).alloc _) (by have h := (Lies.new (w.alloc (.cells #[.int .u64 (wd S 0), .int .u64 (wd S 1), .int .u64 (wd S 2), .int .u64 (wd S 3)] 24)) #[.int .u64 (wd T 0), .int .u64 (wd T 1), .int .u64 (wd T 2), .int .u64 (wd T 3)]); rw [World.size_alloc] at h; exact h)
theorem or_upto (S T : BitVec 256) : upto (fun k => inS S k || inS T k) 256 = S ||| T := by
  apply set_ext; intro i hi
  rw [getLsbD_upto _ _ _ hi, BitVec.getLsbD_or]; simp [hi, inS]
theorem and_upto (S T : BitVec 256) : upto (fun k => inS S k && inS T k) 256 = S &&& T := by
  apply set_ext; intro i hi
  rw [getLsbD_upto _ _ _ hi, BitVec.getLsbD_and]; simp [hi, inS]
theorem not_upto (S : BitVec 256) : upto (fun k => !inS S k) 256 = ~~~S := by
  apply set_ext; intro i hi
  rw [getLsbD_upto _ _ _ hi, BitVec.getLsbD_not]; simp [hi, inS]
theorem whereOr (S T : BitVec 256) (N M : Nat) (w : World) (hS : Lies w N #[.int .u64 (wd S 0), .int .u64 (wd S 1), .int .u64 (wd S 2), .int .u64 (wd S 3)]) (hT : Lies w M #[.int .u64 (wd T 0), .int .u64 (wd T 1), .int .u64 (wd T 2), .int .u64 (wd T 3)]) :
    Calls Try.prog 9 #[.func (.func 17) #[] #[.pointer (some ⟨N, 0, none⟩), .pointer (some ⟨M, 0, none⟩)]] w fun e w' => e = .returned (.agg #[.int .u64 (wd (S ||| T) 0), .int .u64 (wd (S ||| T) 1), .int .u64 (wd (S ||| T) 2), .int .u64 (wd (S ||| T) 3)]) ∧ Below w.heap.size w w' := by
  have h := where_17 (.pointer (some ⟨N, 0, none⟩)) (.pointer (some ⟨M, 0, none⟩)) (fun k => inS S k || inS T k) w (fun k w' hk hb => clo17 S T N M k w' hk (hS.below hb hS.lt) (hT.below hb hT.lt))
  rw [or_upto] at h
  exact h
theorem whereAnd (S T : BitVec 256) (N M : Nat) (w : World) (hS : Lies w N #[.int .u64 (wd S 0), .int .u64 (wd S 1), .int .u64 (wd S 2), .int .u64 (wd S 3)]) (hT : Lies w M #[.int .u64 (wd T 0), .int .u64 (wd T 1), .int .u64 (wd T 2), .int .u64 (wd T 3)]) :
    Calls Try.prog 9 #[.func (.func 19) #[] #[.pointer (some ⟨N, 0, none⟩), .pointer (some ⟨M, 0, none⟩)]] w fun e w' => e = .returned (.agg #[.int .u64 (wd (S &&& T) 0), .int .u64 (wd (S &&& T) 1), .int .u64 (wd (S &&& T) 2), .int .u64 (wd (S &&& T) 3)]) ∧ Below w.heap.size w w' := by
  have h := where_19 (.pointer (some ⟨N, 0, none⟩)) (.pointer (some ⟨M, 0, none⟩)) (fun k => inS S k && inS T k) w (fun k w' hk hb => clo19 S T N M k w' hk (hS.below hb hS.lt) (hT.below hb hT.lt))
  rw [and_upto] at h
  exact h
theorem whereNot (S : BitVec 256) (N : Nat) (w : World) (hS : Lies w N #[.int .u64 (wd S 0), .int .u64 (wd S 1), .int .u64 (wd S 2), .int .u64 (wd S 3)]) :
    Calls Try.prog 9 #[.func (.func 21) #[] #[.pointer (some ⟨N, 0, none⟩)]] w fun e w' => e = .returned (.agg #[.int .u64 (wd (~~~S) 0), .int .u64 (wd (~~~S) 1), .int .u64 (wd (~~~S) 2), .int .u64 (wd (~~~S) 3)]) ∧ Below w.heap.size w w' := by
  have h := where_21 (.pointer (some ⟨N, 0, none⟩)) (fun k => !inS S k) w (fun k w' hk hb => clo21 S N k w' hk (hS.below hb hS.lt))
  rw [not_upto] at h
  exact h

set_option maxHeartbeats 8000000 in
theorem joins_any (S T : BitVec 256) (w : World) :
    Calls Try.prog 4 #[.agg #[.int .u64 (wd S 0), .int .u64 (wd S 1), .int .u64 (wd S 2), .int .u64 (wd S 3)], .agg #[.int .u64 (wd T 0), .int .u64 (wd T 1), .int .u64 (wd T 2), .int .u64 (wd T 3)]] w fun e w' => e = .returned (.bool true) ∧ Below w.heap.size w w' := by
  go_enter Try.func4, Try.ntmps4
  go_wp2_with fail
  have hB0 := (keeps2_start w S T).1
  have hS0 := (keeps2_start w S T).2.1
  have hT0 := (keeps2_start w S T).2.2.1
  refine (join_any S T _).mono ?_
  rintro e w1 ⟨rfl, hb1⟩
  have hB1 := hB0.trans (hb1.mono (by have := hS0.lt; omega))
  have hS1 := hS0.below hb1 hS0.lt
  have hT1 := hT0.below hb1 hT0.lt
  have cS1 := hS1.cell
  have cT1 := hT1.cell
  clear hB0 hS0 hT0 hb1
  go_wp2_with fail
  refine (whereOr S T _ _ _ hS1 hT1).mono ?_
  rintro e w2 ⟨rfl, hb2⟩
  have hB2 := hB1.trans (hb2.mono (by have := hS1.lt; omega))
  have hS2 := hS1.below hb2 hS1.lt
  have hT2 := hT1.below hb2 hT1.lt
  have cS2 := hS2.cell
  have cT2 := hT2.cell
  clear hB1 hS1 hT1 hb2 cS1 cT1
  go_wp2_with fail
  refine (meet_any S T _).mono ?_
  rintro e w3 ⟨rfl, hb3⟩
  have hB3 := hB2.trans (hb3.mono (by have := hS2.lt; omega))
  have hS3 := hS2.below hb3 hS2.lt
  have hT3 := hT2.below hb3 hT2.lt
  have cS3 := hS3.cell
  have cT3 := hT3.cell
  clear hB2 hS2 hT2 hb3 cS2 cT2
  go_wp2_with fail
  refine (whereAnd S T _ _ _ hS3 hT3).mono ?_
  rintro e w4 ⟨rfl, hb4⟩
  have hB4 := hB3.trans (hb4.mono (by have := hS3.lt; omega))
  have hS4 := hS3.below hb4 hS3.lt
  have hT4 := hT3.below hb4 hT3.lt
  have cS4 := hS4.cell
  have cT4 := hT4.cell
  clear hB3 hS3 hT3 hb4 cS3 cT3
  go_wp2_with fail
  refine (not_any S _).mono ?_
  rintro e w5 ⟨rfl, hb5⟩
  have hB5 := hB4.trans (hb5.mono (by have := hS4.lt; omega))
  have hS5 := hS4.below hb5 hS4.lt
  have hT5 := hT4.below hb5 hT4.lt
  have cS5 := hS5.cell
  have cT5 := hT5.cell
  clear hB4 hS4 hT4 hb5 cS4 cT4
  go_wp2_with fail
  refine (whereNot S _ _ hS5).mono ?_
  rintro e w6 ⟨rfl, hb6⟩
  have hB6 := hB5.trans (hb6.mono (by have := hS5.lt; omega))
  have hS6 := hS5.below hb6 hS5.lt
  have hT6 := hT5.below hb6 hT5.lt
  have cS6 := hS6.cell
  have cT6 := hT6.cell
  clear hB5 hS5 hT5 hb6 cS5 cT5
  go_wp2_with fail
  go_ret
  exact ⟨rfl, hB6⟩
end Go.Proofs.Ytomeocofnbnegaa
