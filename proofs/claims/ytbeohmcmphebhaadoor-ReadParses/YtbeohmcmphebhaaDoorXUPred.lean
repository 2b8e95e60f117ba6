import Derived.Test.YtbeohmcmphebhaaDoorXURefClass
namespace Go.Proofs.YtbeohmcmphebhaaDoor
set_option maxRecDepth 20000
open Go.RowKit
attribute [local go_sem] setCell_drewN alloc_drewN
/-- A number lies in block B by itself. -/
def IsBox (w : World) (B : Nat) (v : Value) : Prop := w.cell? ⟨B, 0, none⟩ = some v
set_option maxHeartbeats 1000000 in
theorem within_any (x : Nat × Nat) (b B : Nat) (w : World) (hB : IsBox w B (.int .i64 (b : Int))) (hlt : B < w.heap.size) :
    Calls Tryd.prog 59 #[.agg #[.int .i64 (x.1 : Int), .int .i64 (x.2 : Int)], .pointer (some ⟨B, 0, none⟩)] w fun e w' => e = .returned (.bool (decide (x.1 ≤ b) && decide (b ≤ x.2))) ∧ Below w.heap.size w w' := by
  unfold IsBox at hB
  have hne : B ≠ w.heap.size := by omega
  by_cases h1 : x.1 ≤ b
  · have d1 : decide (x.1 ≤ b) = true := by simp; omega
    go_enter Tryd.func59, Tryd.ntmps59
    go_wp2_with fail
    go_ret
    exact ⟨by rw [d1] <;> simp, (Below.refl _ _).alloc (Nat.le_refl _) _⟩
  · have d1 : decide (x.1 ≤ b) = false := by simp; omega
    go_enter Tryd.func59, Tryd.ntmps59
    go_wp2_with fail
    go_ret
    exact ⟨by rw [d1] <;> simp, (Below.refl _ _).alloc (Nat.le_refl _) _⟩
/-- A pair as cells. -/
def pe (x : Nat × Nat) : List Value := [.int .i64 (x.1 : Int), .int .i64 (x.2 : Int)]
theorem pcs_at (l : List (Nat × Nat)) (j : Nat) (hj : j < l.length) (i : Nat) (v : Value) (h : (pe l[j]!)[i]? = some v) : (pcs l)[j * 2 + i]? = some v := by
  induction l generalizing j with
  | nil => simp at hj
  | cons a l ih =>
    have e : pcs (a :: l) = pe a ++ pcs l := rfl
    have hi : i < 2 := by
      rcases Nat.lt_or_ge i 2 with h1 | h1
      · exact h1
      · rw [List.getElem?_eq_none (by simpa [pe] using h1)] at h; cases h
    cases j with
    | zero =>
      rw [e, Nat.zero_mul, Nat.zero_add, List.getElem?_append_left (by simp [pe]; omega)]
      simpa using h
    | succ j =>
      rw [e, List.getElem?_append_right (by simp [pe]; omega)]
      have := ih j (by simpa using hj) (by simpa using h)
      simp only [pe, List.length_cons, List.length_nil]
      rw [show (j + 1) * 2 + i - (0 + 1 + 1) = j * 2 + i from by omega]
      exact this
/-- A slice of pairs of the call's own. -/
def Pairs (w : World) (base : Nat) (v : Value) (l : List (Nat × Nat)) : Prop := w.ownsRow base 89 2 v l.length (pcs l)
theorem Pairs.below {w w' : World} {base : Nat} {v : Value} {l : List (Nat × Nat)} (h : Pairs w base v l) (hb : Below w.heap.size w w') : Pairs w' base v l := ownsRow_below h hb
theorem enters28 : ∀ args w, (callFunc 59 args).run Tryd.prog w = .ok (.enter 59 args) w := enters_of Tryd.func59 (by kernel_rfl) rfl
theorem agg50 : ∀ w, (isAgg 89).run Tryd.prog w = .ok true w := Tryd.isAgg89
theorem size50 : ∀ w, (Go.sizeOf 89).run Tryd.prog w = .ok 2 w := Tryd.sizeOf89
set_option maxHeartbeats 1000000 in
theorem index_nil (f : Value) (w : World) :
    Calls Tryd.prog 77 #[.slice none 0 0, f] w fun e w' => e = .returned (.int .i64 (-1)) ∧ w' = w := by
  go_enter Tryd.func77, Tryd.ntmps77
  go_wp2_with fail
  go_loop [8] (fun i => i = .int .i64 0) (fun _ => 0)
  case atStart => rfl
  case round =>
    subst hrel
    go_wp2_with fail
    go_ret
    exact ⟨rfl, rfl⟩
set_option maxHeartbeats 1000000 in
theorem contains_nil (lb : Array Value) (w : World) :
    Calls Tryd.prog 58 #[.slice none 0 0, .func (.func 59) #[] lb] w fun e w' => e = .returned (.bool false) ∧ Below w.heap.size w w' := by
  go_enter Tryd.func58, Tryd.ntmps58
  go_wp2_with fail
  refine (index_nil _ _).mono ?_
  rintro e w1 ⟨rfl, rfl⟩
  go_wp2_with fail
  go_ret
  exact ⟨rfl, Below.refl _ _⟩
theorem contains_own (l : List (Nat × Nat)) (v : Value) (base b B : Nat) (w : World) (hP : Pairs w base v l) (hB : IsBox w B (.int .i64 (b : Int))) (hlt : B < w.heap.size) (hl : l.length ≤ 100000000) :
    Calls Tryd.prog 58 #[v, .func (.func 59) #[] #[.pointer (some ⟨B, 0, none⟩)]] w fun e w' => e = .returned (.bool (hit l b)) ∧ Below w.heap.size w w' := by
  have hP' := hP
  obtain ⟨h1, h2⟩ := hP
  rcases h2 with ⟨rfl, h2⟩ | ⟨g, cap, cur, rfl, hg, hh, hn, hm, hsz, hc⟩
  · obtain rfl : l = [] := List.length_eq_zero_iff.1 h2
    exact contains_nil _ w
  · have hglt : g < w.heap.size := by
      rcases Nat.lt_or_ge g w.heap.size with h | h
      · exact h
      · rw [Array.getElem?_eq_none h] at hh; cases hh
    have := Tryd.slices_ContainsFunc 2 agg50 size50 pe (fun x => rfl) (fun x => decide (x.1 ≤ b) && decide (b ≤ x.2)) 59 #[.pointer (some ⟨B, 0, none⟩)] enters28 g 0 l.length cap l w
      (fun W x hb => (within_any x b B W (by unfold IsBox at hB ⊢; rw [hb.cell (by simpa using hlt)]; exact hB) (Nat.lt_of_lt_of_le hlt hb.size)).mono fun e w' ⟨he, h3⟩ => ⟨he, hb.trans (h3.mono hb.size)⟩)
      (Nat.le_refl _) (by omega) hglt
      (fun j hj i v hv => by
        have h4 := pcs_at l j hj i v hv
        have h5 := World.ownsRow.cells hP' (g := g) rfl (j * 2 + i) v h4
        rw [Addr.add_lit] at h5
        simpa using h5)
    rw [List.take_length] at this
    exact this
set_option maxHeartbeats 1000000 in
theorem clo26 (l : List (Nat × Nat)) (v : Value) (base b P8 P7 : Nat) (n : Bool) (w : World) (hP : Pairs w base v l) (h8 : IsBox w P8 v) (h7 : IsBox w P7 (.bool n)) (hl8 : P8 < w.heap.size) (hl7 : P7 < w.heap.size) (hl : l.length ≤ 100000000) :
    Calls Tryd.prog 57 #[.int .i64 (b : Int), .pointer (some ⟨P8, 0, none⟩), .pointer (some ⟨P7, 0, none⟩)] w fun e w' => e = .returned (.bool (hit l b != n)) ∧ Below w.heap.size w w' := by
  unfold IsBox at h8 h7
  have hB0 : IsBox (w.alloc (.cells #[.int .i64 (b : Int)] 3)) w.heap.size (.int .i64 (b : Int)) := by unfold IsBox; simp
  have hne8 : P8 ≠ w.heap.size := by omega
  have hne7 : P7 ≠ w.heap.size := by omega
  have h8' : (w.alloc (.cells #[.int .i64 (b : Int)] 3)).cell? ⟨P8, 0, none⟩ = some v := by rw [← h8]; exact (((Below.refl w.heap.size w).alloc (Nat.le_refl _) (.cells #[.int .i64 (b : Int)] 3)).cell (p := ⟨P8, 0, none⟩) hl8)
  have h7' : (w.alloc (.cells #[.int .i64 (b : Int)] 3)).cell? ⟨P7, 0, none⟩ = some (.bool n) := by rw [← h7]; exact (((Below.refl w.heap.size w).alloc (Nat.le_refl _) (.cells #[.int .i64 (b : Int)] 3)).cell (p := ⟨P7, 0, none⟩) hl7)
  have hP1 : Pairs (w.alloc (.cells #[.int .i64 (b : Int)] 3)) base v l := World.ownsRow.alloc hP _
  have hB1 : Below w.heap.size w (w.alloc (.cells #[.int .i64 (b : Int)] 3)) := (Below.refl _ _).alloc (Nat.le_refl _) _
  have hz1 : (w.alloc (.cells #[.int .i64 (b : Int)] 3)).heap.size = w.heap.size + 1 := by simp
  go_enter Tryd.func57, Tryd.ntmps57
  go_wp2_with fail
  generalize w.alloc (.cells #[.int .i64 (b : Int)] 3) = w1 at *
  have hlt1 : w.heap.size < w1.heap.size := by omega
  have hlt7 : P7 < w1.heap.size := by omega
  clear hz1 h8 h7
  go_region_held3 (fun w' => Below w.heap.size w w' ∧ w'.cell? ⟨P8, 0, none⟩ = some v ∧ w'.cell? ⟨P7, 0, none⟩ = some (.bool n)) (first | exact ⟨hB1.drew, h8', h7'⟩ | exact ⟨b_call hB1.drew hb, by rw [hb.cell (by simp; omega)]; exact h8', by rw [hb.cell (by simp; omega)]; exact h7'⟩) ((go_at_call 58; refine (contains_own l v base b w.heap.size w1.drew (World.ownsRow.drew hP1) hB0 hlt1 hl).mono ?_; rintro e w2 ⟨rfl, hb⟩))
  have hBe : Below w.heap.size w w2 := b_call hB1.drew hb
  clear hb
  go_wp2_with fail
  go_ret
  exact ⟨by cases hit l b <;> cases n <;> rfl, hBe⟩
set_option maxHeartbeats 1000000 in
theorem where_26 (c1 c2 : Value) (p : Nat → Bool) (w : World)
    (hp : Hid (∀ (k : Nat) (w' : World), k < 256 → Below w.heap.size w w' → Calls Tryd.prog 57 #[.int .i64 k, c1, c2] w' fun e w'' => e = .returned (.bool (p k)) ∧ Below w'.heap.size w' w'')) :
    Calls Tryd.prog 56 #[(.func (.func 57) #[] #[c1, c2])] w fun e w' => e = .returned (.agg #[.int .u64 (wd (upto p 256) 0), .int .u64 (wd (upto p 256) 1), .int .u64 (wd (upto p 256) 2), .int .u64 (wd (upto p 256) 3)]) ∧ Below w.heap.size w w' := by
  go_enter Tryd.func56, Tryd.ntmps56
  go_wp2_with fail
  go_loopw [3, 4] (fun _ i wx => ∃ (k : Nat) (S : BitVec 256), i = .int .i64 k ∧ k ≤ 256 ∧ Hid (S = upto p k) ∧ Below w.heap.size w wx ∧ Lies wx w.heap.size #[.int .u64 (wd S 0), .int .u64 (wd S 1), .int .u64 (wd S 2), .int .u64 (wd S 3)]) (fun _ i _ => 256 - (intOf i).toNat)
  case atStart => exact ⟨0, 0#256, rfl, by omega, rfl, (Below.refl _ _).alloc (Nat.le_refl _) _, by simp only [wd_zeroU]; exact Lies.new _ _⟩
  case round =>
    obtain ⟨k, S, rfl, hk, HS, hB, hL⟩ := hrel
    by_cases hh : (k : Int) < 256
    · go_wp2_with fail
      refine (hp.out k _ (by omega) hB).mono ?_
      rintro e w1 ⟨rfl, hb1⟩
      have hB1 := hB.trans (hb1.mono (by have := hL.lt; omega))
      have hL1 := hL.below hb1 hL.lt
      have hlt := hL1.lt
      clear hb1 hL hB
      have hq := at_word S k (by omega)
      have hc := hL1.cell (k / 64)
      have hf := hL1.frozen (k / 64)
      cases hpk : p k
      · have HP : Hid (p k = false) := hpk
        clear hpk
        go_wp2_with fail
        exact ⟨⟨k + 1, S, by go_num, by omega, by rw [HS.out]; exact upto_step_no p k HP.out, hB1, hL1⟩, by simp [intOf]; omega⟩
      · have HP : Hid (p k = true) := hpk
        clear hpk
        go_wp2_with fail
        go_region
        go_wp2_with fail
        refine ⟨⟨k + 1, S ||| BitVec.twoPow 256 k, by go_num, by omega, by rw [HS.out]; exact upto_step_yes p k HP.out, (hB1.setCell (by simp) _).drew, ?_⟩, by simp [intOf]; omega⟩
        have hs := (hL1.set (k / 64) (.int .u64 (IntKind.u64.wrap (wd S (k / 64) + IntKind.u64.wrap (2 ^ (k % 64)))))).drew
        rw [List.setIfInBounds_toArray, set_word S k (by omega) _ (wd_add_two S k (by omega) (by rw [HS.out, getLsbD_upto _ _ _ (by omega)]; simp))] at hs
        exact hs
    · have hc := hL.cell
      have hf := hL.frozen
      have hlt := hL.lt
      have hk2 : k = 256 := by omega
      go_wp2_with fail
      exact bodyPost_ret (v := .agg #[.int .u64 (wd S 0), .int .u64 (wd S 1), .int .u64 (wd S 2), .int .u64 (wd S 3)]) (by simp [results, Tryd.results56, go_sem, hc]) rfl ⟨by rw [HS.out, hk2], (((hB.setCell (by simp) _).setCell (by simp) _).setCell (by simp) _).setCell (by simp) _⟩

set_option maxHeartbeats 1000000 in
theorem bad_any (w : World) :
    Calls Tryd.prog 55 #[] w fun e w' => e = .returned (.tuple #[.agg #[.int .u64 0, .int .u64 0, .int .u64 0, .int .u64 0], .int .i64 0, .int .i64 4]) ∧ Below w.heap.size w w' := by
  go_enter Tryd.func55, Tryd.ntmps55
  go_wp2_with fail
  exact bodyPost_ret (v := .tuple #[.agg #[.int .u64 0, .int .u64 0, .int .u64 0, .int .u64 0], .int .i64 0, .int .i64 4]) (by simp [results, Tryd.results55, go_sem]) rfl ⟨rfl, (Below.refl _ _).alloc (Nat.le_refl _) _⟩
theorem set26 (l : List (Nat × Nat)) (v : Value) (base P8 P7 : Nat) (n : Bool) (w : World) (hP : Pairs w base v l) (h8 : IsBox w P8 v) (h7 : IsBox w P7 (.bool n)) (hl8 : P8 < w.heap.size) (hl7 : P7 < w.heap.size) (hl : l.length ≤ 100000000) (T : BitVec 256) (hT : (if n then ~~~(setOf l) else setOf l) = T) :
    Calls Tryd.prog 56 #[.func (.func 57) #[] #[.pointer (some ⟨P8, 0, none⟩), .pointer (some ⟨P7, 0, none⟩)]] w fun e w' => e = .returned (.agg #[.int .u64 (wd T 0), .int .u64 (wd T 1), .int .u64 (wd T 2), .int .u64 (wd T 3)]) ∧ Below w.heap.size w w' := by
  have h := where_26 (.pointer (some ⟨P8, 0, none⟩)) (.pointer (some ⟨P7, 0, none⟩)) (fun b => hit l b != n) w (fun k w' _ hb => clo26 l v base k P8 P7 n w' (hP.below hb) (by unfold IsBox at h8 ⊢; rw [hb.cell (by simpa using hl8)]; exact h8) (by unfold IsBox at h7 ⊢; rw [hb.cell (by simpa using hl7)]; exact h7) (Nat.lt_of_lt_of_le hl8 hb.size) (Nat.lt_of_lt_of_le hl7 hb.size) hl)
  rw [setOf_ne, hT] at h
  exact h
end Go.Proofs.YtbeohmcmphebhaaDoor
