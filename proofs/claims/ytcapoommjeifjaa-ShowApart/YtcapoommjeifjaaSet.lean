import Derived.Test.YtcapoommjeifjaaKids
import Derived.Test.YtcapoommjeifjaaEq
namespace Go.Proofs.Ytcapoommjeifjaa
open Go.RowKit
set_option linter.unusedVariables false
attribute [local go_sem] eq_arr
def ws (S : BitVec 256) : Array Value := #[.int .u64 (wd S 0), .int .u64 (wd S 1), .int .u64 (wd S 2), .int .u64 (wd S 3)]
theorem ws_eq (S : BitVec 256) : ws S = #[.int .u64 (wd S 0), .int .u64 (wd S 1), .int .u64 (wd S 2), .int .u64 (wd S 3)] := rfl
set_option maxRecDepth 20000 in
set_option maxHeartbeats 4000000 in
theorem set_any (S : BitVec 256) (w : World) (v : Value) (l : List UInt8) (base : Nat) (hH : Holds w base v l) (hbase : base ≤ w.heap.size) (hl : l.length ≤ 1000000) :
    Calls Try.prog 42 #[v, .agg #[.int .u64 (wd S 0), .int .u64 (wd S 1), .int .u64 (wd S 2), .int .u64 (wd S 3)]] w fun r w' => ∃ v', r = .returned v' ∧ App base w v w' v' (l ++ (if isFull S then [46] else cls S)) := by
  have hB := (Below.refl w.heap.size w).alloc (Nat.le_refl _) (.cells (ws S) 24)
  have bS := BoxN.new w 24 (ws S)
  have hnot := not_any S (w.alloc (.cells (ws S) 24))
  have HE : Hid (∀ {W1 : World}, Below (w.alloc (.cells (ws S) 24)).heap.size (w.alloc (.cells (ws S) 24)) W1 → BoxN W1 w.heap.size 24 (ws S) ∧ Below w.heap.size w W1 ∧ Holds W1 base v l ∧ base ≤ W1.heap.size) := fun hb => by
    have h1 := hB.trans (hb.mono (by simp))
    exact ⟨bS.below hb (by simp), h1, hH.below h1, Nat.le_trans hbase h1.size⟩
  have HC := class_any S
  have hcl := (cls_len S).2
  clear hB bS hH
  rw [ws_eq] at hnot
  obtain ⟨fl, hfl⟩ : ∃ fl, isFull S = fl := ⟨_, rfl⟩
  rw [hfl]
  unfold isFull noS at hfl
  generalize cls S = cS at *
  cases fl with
  | true =>
    rw [if_pos rfl]
    go_enter Try.func42, Try.ntmps42
    go_wp2_with (first
      | (go_at_call 55; refine hnot.mono ?_; rintro r W1 ⟨rfl, hb1⟩; rw [← ws_eq] at hb1; have k1 := HE.out hb1; have HH1 : Hid _ := k1.2.2.1.below ((Below.refl _ W1).alloc (Nat.le_refl _) (.cells #[.int .u8 46] 5)); have HB1 : Hid (BoxN (W1.alloc (.cells #[.int .u8 46] 5)) W1.heap.size 5 #[.int .u8 46]) := BoxN.new W1 5 #[.int .u8 46]; clear hb1 HE)
      | (at_builtin; refine wpList_app_byte rfl _ _ rfl rfl HH1.out (by have := k1.2.2.2; simp; omega) W1.heap.size 46 HB1.out rfl (by omega) ?_; intro v2 w2 hA2))
    go_ret
    exact ⟨_, rfl, App.after (k1.2.1.alloc k1.2.1.size _) hA2⟩
  | false =>
    rw [if_neg (by simp)]
    go_enter Try.func42, Try.ntmps42
    go_wp2_with (first
      | (go_at_call 55; refine hnot.mono ?_; rintro r W1 ⟨rfl, hb1⟩; rw [← ws_eq] at hb1; have k1 := HE.out hb1; have cS1 := k1.1.cell; rw [ws_eq] at cS1; clear hb1 HE)
      | (go_at_call 56; refine (HC W1).mono ?_; rintro r W3 ⟨rfl, hb3⟩; have HB3 : Hid (Below w.heap.size w W3 ∧ Holds W3 base v l ∧ base ≤ W3.heap.size) := ⟨k1.2.1.trans (hb3.mono k1.2.1.size), k1.2.2.1.below hb3, Nat.le_trans k1.2.2.2 hb3.size⟩; clear hb3)
      | (at_builtin; refine wpList_app_str rfl _ _ rfl rfl HB3.out.2.1 HB3.out.2.2 ⟨cS.toArray⟩ rfl (by show l.length + cS.toArray.size ≤ _; simp; omega) ?_; intro v4 w4 hA4))
    go_ret
    exact ⟨_, rfl, App.after HB3.out.1 hA4⟩
end Go.Proofs.Ytcapoommjeifjaa
