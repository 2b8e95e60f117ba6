import Derived.Test.YtbeohmcmphebhaaGreatDoorXTk
import Derived.Test.YtbeohmcmphebhaaGreatDoorXURef
import Derived.Test.YtbeohmcmphebhaaGreatDoorXShelf
import Derived.Deep.WholeRow
import Derived.Lib.AsciiSet
import Derived.Test.YtbeohmcmphebhaaGreatDoorXURefLit
namespace Go.Proofs.YtbeohmcmphebhaaGreatDoor
open Go.RowKit
set_option linter.unusedVariables false
def szOf : Value → Nat
  | .string s => s.size
  | _ => 0
theorem list_head (u : ByteArray) (h : 0 < u.size) : u.data.toList = u[0] :: (u.extract 1 u.size).data.toList := by
  rw [cut_list]
  have := drop_cons u 0 h
  simpa using this
theorem dw_stop (p : UInt8 → Bool) (u : ByteArray) (h : 0 < u.size) (hp : p u[0] = false) : u.data.toList.dropWhile p = u.data.toList := by
  rw [list_head u h, List.dropWhile_cons, hp]; simp
theorem dw_on (p : UInt8 → Bool) (u : ByteArray) (h : 0 < u.size) (hp : p u[0] = true) : u.data.toList.dropWhile p = (u.extract 1 u.size).data.toList.dropWhile p := by
  rw [list_head u h, List.dropWhile_cons, hp]; simp
theorem ba_of_list (u : ByteArray) : (⟨u.data.toList.toArray⟩ : ByteArray) = u := by cases u; rfl
theorem ret_strl {a : ByteArray} {l : List UInt8} (h : a.data.toList = l) : Ending.returned (.string a) = .returned (.string ⟨l.toArray⟩) := by rw [← h, ba_of_list]
set_option maxHeartbeats 1000000 in
theorem trimA (s : ByteArray) (b : Nat) (p : UInt8 → Bool) (w : World) (hc : ∀ x : UInt8, w.cell? ⟨b, x.toNat, none⟩ = some (.bool (p x))) (hs : s.size ≤ maxLen) :
    Calls Tryz.prog 115 #[.string s, .pointer (some ⟨b, 0, none⟩)] w fun e w' => e = .returned (.string ⟨(s.data.toList.dropWhile p).toArray⟩) ∧ w' = w := by
  unfold maxLen at hs
  go_enter Tryz.func115, Tryz.ntmps115
  go_wp2_with fail
  go_loop [0] (fun v => ∃ u : ByteArray, v = .string u ∧ u.size ≤ s.size ∧ Hid (u.data.toList.dropWhile p = s.data.toList.dropWhile p)) (fun v => szOf v)
  case atStart => exact ⟨s, rfl, Nat.le_refl _, rfl⟩
  case round =>
    obtain ⟨u, rfl, hu, HU⟩ := hrel
    by_cases h0 : u.size = 0
    · obtain rfl := empty_of u h0
      go_wp2_with fail
      go_ret
      exact ⟨ret_strl (by rw [← HU.out]; rfl), rfl⟩
    · have h1 : (0 : Int) < u.size := by omega
      have h1' : 0 < u.size := by omega
      cases hp : p u[0] with
      | true =>
        have hk := Tryz.asciiSet_contains b u[0] true w (by rw [hc, hp])
        have HN : Hid ((u.extract 1 u.size).data.toList.dropWhile p = s.data.toList.dropWhile p) := by
          have := dw_on p u h1' hp
          exact this.symm.trans HU.out
        clear HU hp hc
        go_wp2_with (go_at_call 128; refine hk.mono ?_; rintro e w1 ⟨rfl, rfl⟩)
        go_round
        case rel => exact ⟨_, rfl, by simp; omega, HN⟩
        case measure => simp [szOf]; omega
      | false =>
        have hk := Tryz.asciiSet_contains b u[0] false w (by rw [hc, hp])
        have HN : Hid (u.data.toList = s.data.toList.dropWhile p) := by
          have := dw_stop p u h1' hp
          exact this.symm.trans HU.out
        clear HU hp hc
        go_wp2_with (go_at_call 128; refine hk.mono ?_; rintro e w1 ⟨rfl, rfl⟩)
        go_ret
        exact ⟨ret_strl HN.out, rfl⟩

theorem Tryz.zero147 : ∀ w, (zeroValue 147).run Tryz.prog w = .ok (.agg (Array.replicate 256 (.bool false))) w := by
  intro w; kernel_rfl
theorem Tryz.size147 : (Tryz.prog.info? 147).map (·.size) = some 256 := by kernel_rfl
set_option maxRecDepth 100000 in
set_option maxHeartbeats 4000000 in
theorem trimLeft_any (s cs : ByteArray) (p : UInt8 → Bool) (hpc : ∀ x, cs.data.toList.contains x = p x) (w : World) (hs : s.size ≤ maxLen) (h2 : 2 ≤ cs.size) (hl : cs.size < 4294967281) (ha : ∀ (j : Nat) b, cs.data.toList[j]? = some b → b.toNat < 128) :
    Calls Tryz.prog 104 #[.string s, .string cs] w fun e w' => e = .returned (.string ⟨(s.data.toList.dropWhile p).toArray⟩) ∧ Below w.heap.size w w' := by
  have hmk := Tryz.strings_makeASCIISet Tryz.zero147 cs w hl ha
  have ht : ∀ W : World, (∀ x : UInt8, W.cell? ⟨w.heap.size + 1, x.toNat, none⟩ = some (.bool (p x))) → _ := fun W h => trimA s (w.heap.size + 1) p W h hs
  clear ha
  have hcs : cs.size ≠ 0 := by omega
  by_cases h0 : s.size = 0
  · obtain rfl := empty_of s h0
    go_enter Tryz.func104, Tryz.ntmps104
    go_wp2_with fail
    go_ret
    exact ⟨rfl, Below.refl _ _⟩
  · have he := nonempty s h0
    have hce := nonempty cs hcs
    have hc1 : ((cs.size : Int) == 1) = false := by simp; omega
    have hsz := Lib.setCells_size cs.data.toList
    have hall := Lib.setCells_one cs.data.toList
    have hat := Lib.setCells_at cs.data.toList
    have hz : Tryz.zeroCells147.size = 256 := by kernel_rfl
    generalize Lib.setCells cs.data.toList = A at *
    have hsc : (storeCells ⟨w.heap.size + 1, 0, none⟩ A.toList 0).run Tryz.prog ((w.alloc (.cells A 147)).alloc (.cells Tryz.zeroCells147 147)) = .ok () ((w.alloc (.cells A 147)).alloc (.cells A 147)) := by
      have := run_storeCells_new (P := Tryz.prog) (w.alloc (.cells A 147)) 147 Tryz.zeroCells147 A (by rw [hsz]; exact Tryz.size147) (by rw [hsz, hz]) hall
      simpa using this
    have htt := ht ((w.alloc (.cells A 147)).alloc (.cells A 147)) (fun x => by
      have h1 := heap_alloc_last (w.alloc (.cells A 147)) (.cells A 147)
      have h2 : (w.alloc (.cells A 147)).heap.size = w.heap.size + 1 := by simp
      rw [h2] at h1
      unfold World.cell?
      simp only [h1]
      rw [hat x, hpc]; rfl)
    have HB : Hid (Below w.heap.size w ((w.alloc (.cells A 147)).alloc (.cells A 147))) := ((Below.refl _ _).alloc (Nat.le_refl _) _).alloc (by simp) _
    clear ht hat hall hz hpc
    go_enter Tryz.func104, Tryz.ntmps104
    go_wp2_with (first
      | (go_at_call 114; refine hmk.mono ?_; rintro e w1 ⟨rfl, rfl⟩)
      | (go_at_call 115; refine htt.mono ?_; rintro e w1 ⟨rfl, rfl⟩))
    go_ret
    exact ⟨rfl, HB.out⟩
end Go.Proofs.YtbeohmcmphebhaaGreatDoor
namespace Go.Proofs.YtbeohmcmphebhaaGreatDoor
open Go.RowKit
/-- Pairs of numbers as cells. -/
def pcs (l : List (Nat × Nat)) : List Value := l.flatMap fun x => [.int .i64 (x.1 : Int), .int .i64 (x.2 : Int)]
theorem pcs_app (l m : List (Nat × Nat)) : pcs (l ++ m) = pcs l ++ pcs m := by simp [pcs]
theorem pcs_len (l : List (Nat × Nat)) : (pcs l).length = l.length * 2 := by
  induction l with
  | nil => rfl
  | cons a l ih => rw [show pcs (a :: l) = [.int .i64 (a.1 : Int), .int .i64 (a.2 : Int)] ++ pcs l from rfl, List.length_append, ih]; simp; omega
/-- A byte lies in one of the pairs. -/
def hit (l : List (Nat × Nat)) (b : Nat) : Bool := l.any fun x => decide (x.1 ≤ b) && decide (b ≤ x.2)
/-- The set of the pairs. -/
def setOf (l : List (Nat × Nat)) : BitVec 256 := upto (hit l) 256
theorem setOf_nil : setOf [] = 0#256 := by
  apply set_ext; intro i hi
  unfold setOf; rw [getLsbD_upto _ _ _ hi]; simp [hit]
theorem setOf_snoc (l : List (Nat × Nat)) (a b : Nat) : setOf (l ++ [(a, b)]) = setOf l ||| rng a b := by
  apply set_ext; intro i hi
  rw [BitVec.getLsbD_or, rng_bit _ _ i hi]
  unfold setOf
  rw [getLsbD_upto _ _ _ hi, getLsbD_upto _ _ _ hi]
  simp [hit, hi]
theorem setOf_ne (l : List (Nat × Nat)) (n : Bool) : upto (fun b => hit l b != n) 256 = if n then ~~~(setOf l) else setOf l := by
  apply set_ext; intro i hi
  rw [getLsbD_upto _ _ _ hi]
  cases n
  · simp only [Bool.false_eq_true, if_false]
    unfold setOf; rw [getLsbD_upto _ _ _ hi]; simp [hi]
  · simp only [if_true]
    rw [BitVec.getLsbD_not]
    unfold setOf; rw [getLsbD_upto _ _ _ hi]; simp [hi]
end Go.Proofs.YtbeohmcmphebhaaGreatDoor
namespace Go.Proofs.YtbeohmcmphebhaaGreatDoor
open Go.RowKit
theorem gd_cg (c : UInt8) (h : gd cg c = true) : 33 ≤ c.toNat ∧ c.toNat ≤ 126 := by
  simp only [gd, cg, Lib.indexByte] at h
  by_cases h1 : (91 : UInt8) == c
  · have := beq_iff_eq.1 h1; subst this; decide
  · by_cases h2 : (93 : UInt8) == c
    · have := beq_iff_eq.1 h2; subst this; decide
    · by_cases h3 : (45 : UInt8) == c
      · have := beq_iff_eq.1 h3; subst this; decide
      · by_cases h4 : (94 : UInt8) == c
        · have := beq_iff_eq.1 h4; subst this; decide
        · by_cases h5 : (92 : UInt8) == c
          · have := beq_iff_eq.1 h5; subst this; decide
          · simp [h1, h2, h3, h4, h5] at h
set_option maxHeartbeats 1000000 in
theorem start_zero (S : BitVec 256) (k : Nat) (h : inS S k = true) (h0 : k = 0) : start S k = true := by subst h0; simp [start, h]
theorem start_yes (S : BitVec 256) (k : Nat) (h : inS S k = true) (h1 : inS S (k - 1) = false) : start S k = true := by simp [start, h, h1]
theorem eor_same (S : BitVec 256) (k m : Nat) (h : eor S (k + m - 1) = eor S k) (hm : 1 ≤ m) (hk : k + m < 256) (hi : inS S (k + m) = true) : eor S (k + (m + 1) - 1) = eor S k := by
  rw [← h, eor_yes S (k + m - 1) (by omega) (by rw [show k + m - 1 + 1 = k + m from by omega]; exact hi)]
  congr 1; omega
theorem eor_fin (S : BitVec 256) (k m : Nat) (h : eor S (k + m - 1) = eor S k) (hm : 1 ≤ m) (hk : k + m ≤ 256) (hi : k + m = 256 ∨ inS S (k + m) = false) : eor S k = k + m - 1 := by
  rw [← h]
  rcases hi with hi | hi
  · exact eor_end S _ (by omega)
  · by_cases e : k + m = 256
    · exact eor_end S _ (by omega)
    · exact eor_no S _ (by omega) (by rw [show k + m - 1 + 1 = k + m from by omega]; exact hi)
end Go.Proofs.YtbeohmcmphebhaaGreatDoor
namespace Go.Proofs.YtbeohmcmphebhaaGreatDoor
set_option maxRecDepth 20000
open Go.RowKit
attribute [local go_sem] setCell_drewN alloc_drewN
/-- A number lies in block B by itself. -/
def IsBox (w : World) (B : Nat) (v : Value) : Prop := w.cell? ⟨B, 0, none⟩ = some v
set_option maxHeartbeats 1000000 in
theorem within_any (x : Nat × Nat) (b B : Nat) (w : World) (hB : IsBox w B (.int .i64 (b : Int))) (hlt : B < w.heap.size) :
    Calls Tryz.prog 56 #[.agg #[.int .i64 (x.1 : Int), .int .i64 (x.2 : Int)], .pointer (some ⟨B, 0, none⟩)] w fun e w' => e = .returned (.bool (decide (x.1 ≤ b) && decide (b ≤ x.2))) ∧ Below w.heap.size w w' := by
  unfold IsBox at hB
  have hne : B ≠ w.heap.size := by omega
  by_cases h1 : x.1 ≤ b
  · have d1 : decide (x.1 ≤ b) = true := by simp; omega
    go_enter Tryz.func56, Tryz.ntmps56
    go_wp2_with fail
    go_ret
    exact ⟨by rw [d1] <;> simp, (Below.refl _ _).alloc (Nat.le_refl _) _⟩
  · have d1 : decide (x.1 ≤ b) = false := by simp; omega
    go_enter Tryz.func56, Tryz.ntmps56
    go_wp2_with fail
    go_ret
    exact ⟨by rw [d1] <;> simp, (Below.refl _ _).alloc (Nat.le_refl _) _⟩
/-- A pair as cells. -/
def pe (x : Nat × Nat) : List Value := [.int .i64 (x.1 : Int), .int .i64 (x.2 : Int)]
theorem pcs_at (l : List (Nat × Nat)) (j : Nat) (hj : j < l.length) (i : Nat) (v : Value) (h : (pe l[j]!)[i]? = some v) : (pcs l)[j * 2 + i]? = some v := by
  induction l generalizing j with
  | nil => simp at hj
  | cons a l ih =>
    have e : pcs (a :: l) = pe a ++ pcs l := rfl
    have hi : i < 2 := by
      rcases Nat.lt_or_ge i 2 with h1 | h1
      · exact h1
      · rw [List.getElem?_eq_none (by simpa [pe] using h1)] at h; cases h
    cases j with
    | zero =>
      rw [e, Nat.zero_mul, Nat.zero_add, List.getElem?_append_left (by simp [pe]; omega)]
      simpa using h
    | succ j =>
      rw [e, List.getElem?_append_right (by simp [pe]; omega)]
      have := ih j (by simpa using hj) (by simpa using h)
      simp only [pe, List.length_cons, List.length_nil]
      rw [show (j + 1) * 2 + i - (0 + 1 + 1) = j * 2 + i from by omega]
      exact this
/-- A slice of pairs of the call's own. -/
def Pairs (w : World) (base : Nat) (v : Value) (l : List (Nat × Nat)) : Prop := w.ownsRow base 96 2 v l.length (pcs l)
theorem Pairs.below {w w' : World} {base : Nat} {v : Value} {l : List (Nat × Nat)} (h : Pairs w base v l) (hb : Below w.heap.size w w') : Pairs w' base v l := ownsRow_below h hb
theorem enters28 : ∀ args w, (callFunc 56 args).run Tryz.prog w = .ok (.enter 56 args) w := enters_of Tryz.func56 (by kernel_rfl) rfl
theorem agg50 : ∀ w, (isAgg 96).run Tryz.prog w = .ok true w := Tryz.isAgg96
theorem size50 : ∀ w, (Go.sizeOf 96).run Tryz.prog w = .ok 2 w := Tryz.sizeOf96
set_option maxHeartbeats 1000000 in
theorem index_nil (f : Value) (w : World) :
    Calls Tryz.prog 78 #[.slice none 0 0, f] w fun e w' => e = .returned (.int .i64 (-1)) ∧ w' = w := by
  go_enter Tryz.func78, Tryz.ntmps78
  go_wp2_with fail
  go_loop [8] (fun i => i = .int .i64 0) (fun _ => 0)
  case atStart => rfl
  case round =>
    subst hrel
    go_wp2_with fail
    go_ret
    exact ⟨rfl, rfl⟩
set_option maxHeartbeats 1000000 in
theorem contains_nil (lb : Array Value) (w : World) :
    Calls Tryz.prog 55 #[.slice none 0 0, .func (.func 56) #[] lb] w fun e w' => e = .returned (.bool false) ∧ Below w.heap.size w w' := by
  go_enter Tryz.func55, Tryz.ntmps55
  go_wp2_with fail
  refine (index_nil _ _).mono ?_
  rintro e w1 ⟨rfl, rfl⟩
  go_wp2_with fail
  go_ret
  exact ⟨rfl, Below.refl _ _⟩
theorem contains_own (l : List (Nat × Nat)) (v : Value) (base b B : Nat) (w : World) (hP : Pairs w base v l) (hB : IsBox w B (.int .i64 (b : Int))) (hlt : B < w.heap.size) (hl : l.length ≤ 100000000) :
    Calls Tryz.prog 55 #[v, .func (.func 56) #[] #[.pointer (some ⟨B, 0, none⟩)]] w fun e w' => e = .returned (.bool (hit l b)) ∧ Below w.heap.size w w' := by
  have hP' := hP
  obtain ⟨h1, h2⟩ := hP
  rcases h2 with ⟨rfl, h2⟩ | ⟨g, cap, cur, rfl, hg, hh, hn, hm, hsz, hc⟩
  · obtain rfl : l = [] := List.length_eq_zero_iff.1 h2
    exact contains_nil _ w
  · have hglt : g < w.heap.size := by
      rcases Nat.lt_or_ge g w.heap.size with h | h
      · exact h
      · rw [Array.getElem?_eq_none h] at hh; cases hh
    have := Tryz.slices_ContainsFunc 2 agg50 size50 pe (fun x => rfl) (fun x => decide (x.1 ≤ b) && decide (b ≤ x.2)) 56 #[.pointer (some ⟨B, 0, none⟩)] enters28 g 0 l.length cap l w
      (fun W x hb => (within_any x b B W (by unfold IsBox at hB ⊢; rw [hb.cell (by simpa using hlt)]; exact hB) (Nat.lt_of_lt_of_le hlt hb.size)).mono fun e w' ⟨he, h3⟩ => ⟨he, hb.trans (h3.mono hb.size)⟩)
      (Nat.le_refl _) (by omega) hglt
      (fun j hj i v hv => by
        have h4 := pcs_at l j hj i v hv
        have h5 := World.ownsRow.cells hP' (g := g) rfl (j * 2 + i) v h4
        rw [Addr.add_lit] at h5
        simpa using h5)
    rw [List.take_length] at this
    exact this
set_option maxHeartbeats 1000000 in
theorem clo26 (l : List (Nat × Nat)) (v : Value) (base b P8 P7 : Nat) (n : Bool) (w : World) (hP : Pairs w base v l) (h8 : IsBox w P8 v) (h7 : IsBox w P7 (.bool n)) (hl8 : P8 < w.heap.size) (hl7 : P7 < w.heap.size) (hl : l.length ≤ 100000000) :
    Calls Tryz.prog 54 #[.int .i64 (b : Int), .pointer (some ⟨P8, 0, none⟩), .pointer (some ⟨P7, 0, none⟩)] w fun e w' => e = .returned (.bool (hit l b != n)) ∧ Below w.heap.size w w' := by
  unfold IsBox at h8 h7
  have hB0 : IsBox (w.alloc (.cells #[.int .i64 (b : Int)] 3)) w.heap.size (.int .i64 (b : Int)) := by unfold IsBox; simp
  have hne8 : P8 ≠ w.heap.size := by omega
  have hne7 : P7 ≠ w.heap.size := by omega
  have h8' : (w.alloc (.cells #[.int .i64 (b : Int)] 3)).cell? ⟨P8, 0, none⟩ = some v := by rw [← h8]; exact (((Below.refl w.heap.size w).alloc (Nat.le_refl _) (.cells #[.int .i64 (b : Int)] 3)).cell (p := ⟨P8, 0, none⟩) hl8)
  have h7' : (w.alloc (.cells #[.int .i64 (b : Int)] 3)).cell? ⟨P7, 0, none⟩ = some (.bool n) := by rw [← h7]; exact (((Below.refl w.heap.size w).alloc (Nat.le_refl _) (.cells #[.int .i64 (b : Int)] 3)).cell (p := ⟨P7, 0, none⟩) hl7)
  have hP1 : Pairs (w.alloc (.cells #[.int .i64 (b : Int)] 3)) base v l := World.ownsRow.alloc hP _
  have hB1 : Below w.heap.size w (w.alloc (.cells #[.int .i64 (b : Int)] 3)) := (Below.refl _ _).alloc (Nat.le_refl _) _
  have hz1 : (w.alloc (.cells #[.int .i64 (b : Int)] 3)).heap.size = w.heap.size + 1 := by simp
  go_enter Tryz.func54, Tryz.ntmps54
  go_wp2_with fail
  generalize w.alloc (.cells #[.int .i64 (b : Int)] 3) = w1 at *
  have hlt1 : w.heap.size < w1.heap.size := by omega
  have hlt7 : P7 < w1.heap.size := by omega
  clear hz1 h8 h7
  go_region_held3 (fun w' => Below w.heap.size w w' ∧ w'.cell? ⟨P8, 0, none⟩ = some v ∧ w'.cell? ⟨P7, 0, none⟩ = some (.bool n)) (first | exact ⟨hB1.drew, h8', h7'⟩ | exact ⟨b_call hB1.drew hb, by rw [hb.cell (by simp; omega)]; exact h8', by rw [hb.cell (by simp; omega)]; exact h7'⟩) ((go_at_call 55; refine (contains_own l v base b w.heap.size w1.drew (World.ownsRow.drew hP1) hB0 hlt1 hl).mono ?_; rintro e w2 ⟨rfl, hb⟩))
  have hBe : Below w.heap.size w w2 := b_call hB1.drew hb
  clear hb
  go_wp2_with fail
  go_ret
  exact ⟨by cases hit l b <;> cases n <;> rfl, hBe⟩
set_option maxHeartbeats 1000000 in
theorem where_26 (c1 c2 : Value) (p : Nat → Bool) (w : World)
    (hp : Hid (∀ (k : Nat) (w' : World), k < 256 → Below w.heap.size w w' → Calls Tryz.prog 54 #[.int .i64 k, c1, c2] w' fun e w'' => e = .returned (.bool (p k)) ∧ Below w'.heap.size w' w'')) :
    Calls Tryz.prog 53 #[(.func (.func 54) #[] #[c1, c2])] w fun e w' => e = .returned (.agg #[.int .u64 (wd (upto p 256) 0), .int .u64 (wd (upto p 256) 1), .int .u64 (wd (upto p 256) 2), .int .u64 (wd (upto p 256) 3)]) ∧ Below w.heap.size w w' := by
  go_enter Tryz.func53, Tryz.ntmps53
  go_wp2_with fail
  go_loopw [3, 4] (fun _ i wx => ∃ (k : Nat) (S : BitVec 256), i = .int .i64 k ∧ k ≤ 256 ∧ Hid (S = upto p k) ∧ Below w.heap.size w wx ∧ Lies wx w.heap.size #[.int .u64 (wd S 0), .int .u64 (wd S 1), .int .u64 (wd S 2), .int .u64 (wd S 3)]) (fun _ i _ => 256 - (intOf i).toNat)
  case atStart => exact ⟨0, 0#256, rfl, by omega, rfl, (Below.refl _ _).alloc (Nat.le_refl _) _, by simp only [wd_zeroU]; exact Lies.new _ _⟩
  case round =>
    obtain ⟨k, S, rfl, hk, HS, hB, hL⟩ := hrel
    by_cases hh : (k : Int) < 256
    · go_wp2_with fail
      refine (hp.out k _ (by omega) hB).mono ?_
      rintro e w1 ⟨rfl, hb1⟩
      have hB1 := hB.trans (hb1.mono (by have := hL.lt; omega))
      have hL1 := hL.below hb1 hL.lt
      have hlt := hL1.lt
      clear hb1 hL hB
      have hq := at_word S k (by omega)
      have hc := hL1.cell (k / 64)
      have hf := hL1.frozen (k / 64)
      cases hpk : p k
      · have HP : Hid (p k = false) := hpk
        clear hpk
        go_wp2_with fail
        exact ⟨⟨k + 1, S, by go_num, by omega, by rw [HS.out]; exact upto_step_no p k HP.out, hB1, hL1⟩, by simp [intOf]; omega⟩
      · have HP : Hid (p k = true) := hpk
        clear hpk
        go_wp2_with fail
        go_region
        go_wp2_with fail
        refine ⟨⟨k + 1, S ||| BitVec.twoPow 256 k, by go_num, by omega, by rw [HS.out]; exact upto_step_yes p k HP.out, (hB1.setCell (by simp) _).drew, ?_⟩, by simp [intOf]; omega⟩
        have hs := (hL1.set (k / 64) (.int .u64 (IntKind.u64.wrap (wd S (k / 64) + IntKind.u64.wrap (2 ^ (k % 64)))))).drew
        rw [List.setIfInBounds_toArray, set_word S k (by omega) _ (wd_add_two S k (by omega) (by rw [HS.out, getLsbD_upto _ _ _ (by omega)]; simp))] at hs
        exact hs
    · have hc := hL.cell
      have hf := hL.frozen
      have hlt := hL.lt
      have hk2 : k = 256 := by omega
      go_wp2_with fail
      exact bodyPost_ret (v := .agg #[.int .u64 (wd S 0), .int .u64 (wd S 1), .int .u64 (wd S 2), .int .u64 (wd S 3)]) (by simp [results, Tryz.results53, go_sem, hc]) rfl ⟨by rw [HS.out, hk2], (((hB.setCell (by simp) _).setCell (by simp) _).setCell (by simp) _).setCell (by simp) _⟩

set_option maxHeartbeats 1000000 in
theorem bad_any (w : World) :
    Calls Tryz.prog 52 #[] w fun e w' => e = .returned (.tuple #[.agg #[.int .u64 0, .int .u64 0, .int .u64 0, .int .u64 0], .int .i64 0, .int .i64 4]) ∧ Below w.heap.size w w' := by
  go_enter Tryz.func52, Tryz.ntmps52
  go_wp2_with fail
  exact bodyPost_ret (v := .tuple #[.agg #[.int .u64 0, .int .u64 0, .int .u64 0, .int .u64 0], .int .i64 0, .int .i64 4]) (by simp [results, Tryz.results52, go_sem]) rfl ⟨rfl, (Below.refl _ _).alloc (Nat.le_refl _) _⟩
theorem set26 (l : List (Nat × Nat)) (v : Value) (base P8 P7 : Nat) (n : Bool) (w : World) (hP : Pairs w base v l) (h8 : IsBox w P8 v) (h7 : IsBox w P7 (.bool n)) (hl8 : P8 < w.heap.size) (hl7 : P7 < w.heap.size) (hl : l.length ≤ 100000000) (T : BitVec 256) (hT : (if n then ~~~(setOf l) else setOf l) = T) :
    Calls Tryz.prog 53 #[.func (.func 54) #[] #[.pointer (some ⟨P8, 0, none⟩), .pointer (some ⟨P7, 0, none⟩)]] w fun e w' => e = .returned (.agg #[.int .u64 (wd T 0), .int .u64 (wd T 1), .int .u64 (wd T 2), .int .u64 (wd T 3)]) ∧ Below w.heap.size w w' := by
  have h := where_26 (.pointer (some ⟨P8, 0, none⟩)) (.pointer (some ⟨P7, 0, none⟩)) (fun b => hit l b != n) w (fun k w' _ hb => clo26 l v base k P8 P7 n w' (hP.below hb) (by unfold IsBox at h8 ⊢; rw [hb.cell (by simpa using hl8)]; exact h8) (by unfold IsBox at h7 ⊢; rw [hb.cell (by simpa using hl7)]; exact h7) (Nat.lt_of_lt_of_le hl8 hb.size) (Nat.lt_of_lt_of_le hl7 hb.size) hl)
  rw [setOf_ne, hT] at h
  exact h
end Go.Proofs.YtbeohmcmphebhaaGreatDoor
namespace Go.Proofs.YtbeohmcmphebhaaGreatDoor
open Go.RowKit
attribute [local go_sem] setCell_drewN alloc_drewN
/-- A - that says a range stands at the beginning. -/
def dash (t : List UInt8) : Bool := decide (2 ≤ t.length) && decide (t.headD 0 = 45) && !decide (t.tail.headD 0 = 93)
theorem ucl_45 (acc : BitVec 256) : ucl [45] acc = none := by
  rw [ucl_on 45 [] acc (by decide) (by decide)]
  show ucl (List.drop (memberAt [45]).2.2 [45]) _ = none
  rw [show (memberAt [45]).2.2 = 1 from by decide]
  exact ucl_nil _
theorem ref_none (a : UInt8) (r : List UInt8) (acc : BitVec 256) (h93 : a ≠ 93) (h0 : (signAt cg (a :: r)).2 = 0) : ucl (a :: r) acc = none :=
  ucl_bad a r acc h93 (.inl (by rw [m_none _ h0]))
theorem ref_single (a : UInt8) (r : List UInt8) (acc : BitVec 256) (h93 : a ≠ 93) (h0 : (signAt cg (a :: r)).2 ≠ 0) (hd : dash ((a :: r).drop (signAt cg (a :: r)).2) = false) :
    ucl (a :: r) acc = ucl ((a :: r).drop (signAt cg (a :: r)).2) (acc ||| rng (signAt cg (a :: r)).1 (signAt cg (a :: r)).1) := by
  have hone := m_one (a :: r) h0
  have hbad := m_bad (a :: r) h0
  by_cases h1 : ¬ ((a :: r).drop (signAt cg (a :: r)).2).headD 0 = 45 ∨ ((a :: r).drop (signAt cg (a :: r)).2).tail.headD 0 = 93
  · have hm := hone h1
    rw [ucl_on a r acc h93 (by rw [hm]; show ¬ ((signAt cg (a :: r)).2 = 0 ∨ (signAt cg (a :: r)).1 < (signAt cg (a :: r)).1); omega), hm]
  · have h45 : ((a :: r).drop (signAt cg (a :: r)).2).headD 0 = 45 := Classical.byContradiction fun h => h1 (.inl h)
    have hn93 : ¬ ((a :: r).drop (signAt cg (a :: r)).2).tail.headD 0 = 93 := fun h => h1 (.inr h)
    have hshort : ((a :: r).drop (signAt cg (a :: r)).2) = [45] := by
      unfold dash at hd
      simp only [h45, hn93, decide_true, decide_false, Bool.not_false, Bool.and_true, decide_eq_false_iff_not] at hd
      match hD : (a :: r).drop (signAt cg (a :: r)).2, h45, hd with
      | [], h45, _ => exact absurd h45 (by decide)
      | [x], h45, _ => simp at h45; rw [h45]
      | x :: y :: z, _, hd => exact absurd (by simp) hd
    have hm := hbad h1 (by rw [← List.drop_drop, hshort]; rfl)
    rw [hshort, ucl_45]
    exact ucl_bad a r acc h93 (.inl (by rw [hm]))
theorem ref_pair_bad (a : UInt8) (r : List UInt8) (acc : BitVec 256) (h93 : a ≠ 93) (h0 : (signAt cg (a :: r)).2 ≠ 0) (hd : dash ((a :: r).drop (signAt cg (a :: r)).2) = true)
    (hb : (signAt cg ((a :: r).drop ((signAt cg (a :: r)).2 + 1))).2 = 0 ∨ (signAt cg ((a :: r).drop ((signAt cg (a :: r)).2 + 1))).1 < (signAt cg (a :: r)).1) : ucl (a :: r) acc = none := by
  unfold dash at hd
  simp only [Bool.and_eq_true, decide_eq_true_eq, Bool.not_eq_true', decide_eq_false_iff_not] at hd
  have h1 : ¬ (¬ ((a :: r).drop (signAt cg (a :: r)).2).headD 0 = 45 ∨ ((a :: r).drop (signAt cg (a :: r)).2).tail.headD 0 = 93) := fun h => by
    rcases h with h | h
    · exact h hd.1.2
    · exact hd.2 h
  by_cases hz : (signAt cg ((a :: r).drop ((signAt cg (a :: r)).2 + 1))).2 = 0
  · exact ucl_bad a r acc h93 (.inl (by rw [m_bad _ h0 h1 hz]))
  · have hm := m_two _ h0 h1 hz
    refine ucl_bad a r acc h93 (.inr ?_)
    rw [hm]
    show (signAt cg ((a :: r).drop ((signAt cg (a :: r)).2 + 1))).1 < (signAt cg (a :: r)).1
    rcases hb with hb | hb
    · exact absurd hb hz
    · exact hb
theorem ref_pair (a : UInt8) (r : List UInt8) (acc : BitVec 256) (h93 : a ≠ 93) (h0 : (signAt cg (a :: r)).2 ≠ 0) (hd : dash ((a :: r).drop (signAt cg (a :: r)).2) = true)
    (hz : (signAt cg ((a :: r).drop ((signAt cg (a :: r)).2 + 1))).2 ≠ 0) (hb : ¬ (signAt cg ((a :: r).drop ((signAt cg (a :: r)).2 + 1))).1 < (signAt cg (a :: r)).1) :
    ucl (a :: r) acc = ucl ((a :: r).drop ((signAt cg (a :: r)).2 + 1 + (signAt cg ((a :: r).drop ((signAt cg (a :: r)).2 + 1))).2)) (acc ||| rng (signAt cg (a :: r)).1 (signAt cg ((a :: r).drop ((signAt cg (a :: r)).2 + 1))).1) := by
  unfold dash at hd
  simp only [Bool.and_eq_true, decide_eq_true_eq, Bool.not_eq_true', decide_eq_false_iff_not] at hd
  have h1 : ¬ (¬ ((a :: r).drop (signAt cg (a :: r)).2).headD 0 = 45 ∨ ((a :: r).drop (signAt cg (a :: r)).2).tail.headD 0 = 93) := fun h => by
    rcases h with h | h
    · exact h hd.1.2
    · exact hd.2 h
  have hm := m_two _ h0 h1 hz
  rw [ucl_on a r acc h93 (by
    rw [hm]
    show ¬ ((signAt cg (a :: r)).2 + 1 + (signAt cg ((a :: r).drop ((signAt cg (a :: r)).2 + 1))).2 = 0 ∨ (signAt cg ((a :: r).drop ((signAt cg (a :: r)).2 + 1))).1 < (signAt cg (a :: r)).1)
    omega), hm]
theorem headD_at (s : ByteArray) (k : Nat) (h : k < s.size) : (s.data.toList.drop k).headD 0 = s[k] := by rw [drop_cons s k h]; rfl
theorem headD_over (s : ByteArray) (k : Nat) (h : s.size ≤ k) : (s.data.toList.drop k).headD 0 = 0 := by rw [List.drop_eq_nil_of_le (by rw [llen]; exact h)]; rfl
/-- Three reasons for no -, one for it. -/
theorem dash_at (s : ByteArray) (k : Nat) (h : k + 1 < s.size) : dash (s.data.toList.drop k) = (decide (s[k].toNat = 45) && !decide (s[k + 1].toNat = 93)) := by
  have h1 := headD_at s k (by omega)
  have h2 : (s.data.toList.drop k).tail.headD 0 = s[k + 1] := by rw [List.tail_drop]; exact headD_at s (k + 1) h
  unfold dash
  rw [h1, h2, List.length_drop, llen, decide_eq_true (show 2 ≤ s.size - k from by omega), Bool.true_and]
  have e1 : decide (s[k] = 45) = decide (s[k].toNat = 45) := by rw [decide_eq_decide]; exact ⟨fun e => by rw [e]; rfl, fun e => toNat_eq e⟩
  have e2 : decide (s[k + 1] = 93) = decide (s[k + 1].toNat = 93) := by rw [decide_eq_decide]; exact ⟨fun e => by rw [e]; rfl, fun e => toNat_eq e⟩
  rw [e1, e2]
theorem dash_over (s : ByteArray) (k : Nat) (h : s.size ≤ k + 1) : dash (s.data.toList.drop k) = false := by
  unfold dash
  rw [List.length_drop, llen, decide_eq_false (show ¬ 2 ≤ s.size - k from by omega)]; rfl
end Go.Proofs.YtbeohmcmphebhaaGreatDoor
namespace Go.Proofs.YtbeohmcmphebhaaGreatDoor
open Go.RowKit
attribute [local go_sem] setCell_drewN alloc_drewN
theorem gd_cg_lt (c : UInt8) (h : gd cg c = true) : c.toNat < 128 := by
  simp only [gd, cg, Lib.indexByte] at h
  by_cases h1 : (91 : UInt8) == c
  · have := beq_iff_eq.1 h1; subst this; decide
  · by_cases h2 : (93 : UInt8) == c
    · have := beq_iff_eq.1 h2; subst this; decide
    · by_cases h3 : (45 : UInt8) == c
      · have := beq_iff_eq.1 h3; subst this; decide
      · by_cases h4 : (94 : UInt8) == c
        · have := beq_iff_eq.1 h4; subst this; decide
        · by_cases h5 : (92 : UInt8) == c
          · have := beq_iff_eq.1 h5; subst this; decide
          · simp [h1, h2, h3, h4, h5] at h
set_option maxRecDepth 20000 in
set_option maxHeartbeats 1000000 in
theorem runclass_no (s : ByteArray) (w : World) (h : s.data.toList.headD 0 ≠ 91) :
    Calls Tryz.prog 27 #[.string s] w fun e w' => e = .returned (.tuple #[.agg #[.int .u64 0, .int .u64 0, .int .u64 0, .int .u64 0], .int .i64 0, .int .i64 4]) ∧ Below w.heap.size w w' := by
  by_cases h0 : s.size = 0
  · obtain rfl := empty_of s h0
    clear h h0
    go_enter Tryz.func27, Tryz.ntmps27
    go_wp2_with fail
    refine (bad_any _).mono ?_
    rintro e w1 ⟨rfl, hb⟩
    have hL := (Lies.new w #[.int .u64 0, .int .u64 0, .int .u64 0, .int .u64 0]).below hb (by simp)
    have hB : Below w.heap.size w w1 := ((Below.refl w.heap.size w).alloc (Nat.le_refl _) _).trans (hb.mono (by simp))
    have hc := hL.cell
    have hf := hL.frozen
    have hlt := hL.lt
    clear hb
    go_wp2_with fail
    exact bodyPost_ret (v := .tuple #[.agg #[.int .u64 0, .int .u64 0, .int .u64 0, .int .u64 0], .int .i64 0, .int .i64 4]) (by simp [results, Tryz.results27, go_sem, hc]) rfl ⟨rfl, (((hB.setCell (by simp) _).setCell (by simp) _).setCell (by simp) _).setCell (by simp) _⟩
  · have he := nonempty s h0
    have h1 : 0 < s.size := by omega
    have h1' : (0 : Int) < s.size := by omega
    have h91 : s[0].toNat ≠ 91 := fun e => h (by have := headD_at s 0 h1; rw [List.drop_zero] at this; rw [this]; exact toNat_eq e)
    have hx : ((s[0].toNat : Int) != 91) = true := by simp; omega
    clear h h91
    go_enter Tryz.func27, Tryz.ntmps27
    go_wp2_with fail
    refine (bad_any _).mono ?_
    rintro e w1 ⟨rfl, hb⟩
    have hL := (Lies.new w #[.int .u64 0, .int .u64 0, .int .u64 0, .int .u64 0]).below hb (by simp)
    have hB : Below w.heap.size w w1 := ((Below.refl w.heap.size w).alloc (Nat.le_refl _) _).trans (hb.mono (by simp))
    have hc := hL.cell
    have hf := hL.frozen
    have hlt := hL.lt
    clear hb
    go_wp2_with fail
    exact bodyPost_ret (v := .tuple #[.agg #[.int .u64 0, .int .u64 0, .int .u64 0, .int .u64 0], .int .i64 0, .int .i64 4]) (by simp [results, Tryz.results27, go_sem, hc]) rfl ⟨rfl, (((hB.setCell (by simp) _).setCell (by simp) _).setCell (by simp) _).setCell (by simp) _⟩
theorem oth_yes (s : ByteArray) (h : 1 < s.size) : others s.data.toList = decide (s[1].toNat = 94) := by
  unfold others; rw [headD_at s 1 h, decide_eq_decide]; exact ⟨fun e => by rw [e]; rfl, fun e => toNat_eq e⟩
theorem oth_no (s : ByteArray) (h : ¬ 1 < s.size) : others s.data.toList = false := by
  unfold others; rw [headD_over s 1 (by omega)]; rfl
theorem within_at (s : ByteArray) : within s.data.toList = s.data.toList.drop (if others s.data.toList then 2 else 1) := by
  unfold within others
  by_cases e : (s.data.toList.drop 1).headD 0 = 94
  · rw [if_pos e, decide_eq_true e]; rfl
  · rw [if_neg e, decide_eq_false e]; rfl
/-- A block of the call's own that may be written. -/
def Blk (w : World) (N : Nat) (A : Array Value) (T : TypeId) : Prop := w.heap[N]? = some (.cells A T (0, 0))
theorem Blk.cell {w : World} {N : Nat} {A : Array Value} {T : TypeId} (h : Blk w N A T) (o : Nat) : w.cell? ⟨N, o, none⟩ = A[o]? := by
  unfold Blk at h
  simp [World.cell?, h]
theorem Blk.frozen {w : World} {N : Nat} {A : Array Value} {T : TypeId} (h : Blk w N A T) (o : Nat) : w.frozen? ⟨N, o, none⟩ = false := by
  unfold Blk at h
  simp [World.frozen?, h]
theorem Blk.lt {w : World} {N : Nat} {A : Array Value} {T : TypeId} (h : Blk w N A T) : N < w.heap.size := by
  unfold Blk at h
  rcases Nat.lt_or_ge N w.heap.size with h1 | h1
  · exact h1
  · rw [Array.getElem?_eq_none h1] at h; cases h
theorem Blk.below {W w' : World} {N B : Nat} {A : Array Value} {T : TypeId} (h : Blk W N A T) (hb : Below B W w') (hN : N < B) : Blk w' N A T := by
  unfold Blk at h ⊢
  rw [hb.block N hN]; exact h
theorem Blk.alloc {w : World} {N : Nat} {A : Array Value} {T : TypeId} (h : Blk w N A T) (o : Obj) : Blk (w.alloc o) N A T := by
  have := h.lt
  unfold Blk at h ⊢
  rw [Below.heap_alloc _ _ _ this]; exact h
theorem Blk.drew {w : World} {N : Nat} {A : Array Value} {T : TypeId} (h : Blk w N A T) : Blk w.drew N A T := h
theorem Blk.new (w : World) (A : Array Value) (T : TypeId) : Blk (w.alloc (.cells A T)) w.heap.size A T := by
  show (w.heap.push _)[w.heap.size]? = _
  simp
theorem Blk.grown {w w' : World} {N : Nat} {A : Array Value} {T : TypeId} {row : Option Nat} (h : Blk w N A T) (hg : w.grownBy w' row) (hr : some N ≠ row) : Blk w' N A T := by
  have := h.lt
  unfold Blk at h ⊢
  rw [hg.block N this hr]; exact h
theorem Blk.set {w : World} {N : Nat} {A : Array Value} {T : TypeId} (h : Blk w N A T) (i : Nat) (v : Value) : Blk (w.setCell ⟨N, i, none⟩ v) N (A.setIfInBounds i v) T := by
  unfold Blk at h ⊢
  simp [World.setCell, Array.getElem?_modify, h]
theorem Blk.other {w : World} {N M : Nat} {A : Array Value} {T : TypeId} (h : Blk w N A T) (i : Nat) (v : Value) (hne : N ≠ M) : Blk (w.setCell ⟨M, i, none⟩ v) N A T := by
  unfold Blk at h ⊢
  rw [Below.heap_setCell _ _ _ _ (by simpa using hne)]; exact h
theorem Pairs.other {w : World} {base M : Nat} {v : Value} {l : List (Nat × Nat)} (h : Pairs w base v l) (i : Nat) (u : Value) (hM : M < base) : Pairs (w.setCell ⟨M, i, none⟩ u) base v l := by
  obtain ⟨h1, h2⟩ := h
  refine ⟨h1, ?_⟩
  rcases h2 with h2 | ⟨g, cap, cur, hv, hg, hh, r⟩
  · exact Or.inl h2
  · refine Or.inr ⟨g, cap, cur, hv, hg, ?_, r⟩
    rw [Below.heap_setCell _ _ _ _ (by show g ≠ M; omega)]; exact hh
theorem Tryz.info96 : (Tryz.prog.info? 96).map (fun i => (i.zero, i.size, i.bytes)) = some (some (.agg #[.int .i64 0, .int .i64 0]), 2, 16) := by kernel_rfl
/-- All that the call of Unclass keeps. -/
structure Kept (w wx : World) (oth : Bool) (v : Value) (l : List (Nat × Nat)) : Prop where
  B : Below w.heap.size w wx
  res : Blk wx w.heap.size #[.int .u64 0, .int .u64 0, .int .u64 0, .int .u64 0] 40
  no : Blk wx (w.heap.size + 1) #[.bool oth] 4
  sp : Blk wx (w.heap.size + 1 + 1) #[v] 95
  pairs : Pairs wx (w.heap.size + 3) v l
theorem Kept.call {w wx w' : World} {oth : Bool} {v : Value} {l : List (Nat × Nat)} (h : Kept w wx oth v l) (hb : Below wx.heap.size wx w') : Kept w w' oth v l :=
  ⟨b_call h.B hb, h.res.below hb h.res.lt, h.no.below hb h.no.lt, h.sp.below hb h.sp.lt, h.pairs.below hb⟩
theorem ucl_93 (s : ByteArray) (k : Nat) (acc : BitVec 256) (hk : k < s.size) (h : s[k].toNat = 93) : ucl (s.data.toList.drop k) acc = some (acc, s.size - k) := by
  rw [drop_cons s k hk, show s[k] = 93 from toNat_eq h, ucl_end, List.length_drop, llen]
  congr 2; omega
theorem ucl_0 (s : ByteArray) (k : Nat) (acc : BitVec 256) (hk : s.size ≤ k) : ucl (s.data.toList.drop k) acc = none := by
  rw [List.drop_eq_nil_of_le (by rw [llen]; exact hk), ucl_nil]
theorem u_none (s : ByteArray) (k : Nat) (acc : BitVec 256) (hk : k < s.size) (h : s[k].toNat ≠ 93) (h0 : (signAt cg (s.data.toList.drop k)).2 = 0) : ucl (s.data.toList.drop k) acc = none := by
  rw [drop_cons s k hk] at h0 ⊢
  exact ref_none _ _ acc (fun e => h (by rw [e]; rfl)) h0
theorem u_single (s : ByteArray) (k : Nat) (l : List (Nat × Nat)) (hk : k < s.size) (h : s[k].toNat ≠ 93) (P : Nat × Nat) (hP : signAt cg (s.data.toList.drop k) = P) (h0 : P.2 ≠ 0) (hd : dash (s.data.toList.drop (k + P.2)) = false) :
    ucl (s.data.toList.drop k) (setOf l) = ucl (s.data.toList.drop (k + P.2)) (setOf (l ++ [(P.1, P.1)])) := by
  subst hP
  rw [setOf_snoc, ← List.drop_drop]
  rw [← List.drop_drop] at hd
  have e := drop_cons s k hk
  generalize s.data.toList.drop k = D at *
  subst e
  exact ref_single _ _ _ (fun e => h (by rw [e]; rfl)) h0 hd
theorem u_bad (s : ByteArray) (k : Nat) (acc : BitVec 256) (hk : k < s.size) (h : s[k].toNat ≠ 93) (P Q : Nat × Nat) (hP : signAt cg (s.data.toList.drop k) = P) (h0 : P.2 ≠ 0) (hd : dash (s.data.toList.drop (k + P.2)) = true)
    (hQ : signAt cg (s.data.toList.drop (k + P.2 + 1)) = Q) (hb : Q.2 = 0 ∨ Q.1 < P.1) : ucl (s.data.toList.drop k) acc = none := by
  subst hP
  subst hQ
  rw [Nat.add_assoc, ← List.drop_drop] at hb
  rw [← List.drop_drop] at hd
  have e := drop_cons s k hk
  generalize s.data.toList.drop k = D at *
  subst e
  exact ref_pair_bad _ _ _ (fun e => h (by rw [e]; rfl)) h0 hd hb
theorem u_pair (s : ByteArray) (k : Nat) (l : List (Nat × Nat)) (hk : k < s.size) (h : s[k].toNat ≠ 93) (P Q : Nat × Nat) (hP : signAt cg (s.data.toList.drop k) = P) (h0 : P.2 ≠ 0) (hd : dash (s.data.toList.drop (k + P.2)) = true)
    (hQ : signAt cg (s.data.toList.drop (k + P.2 + 1)) = Q) (hz : Q.2 ≠ 0) (hb : ¬ Q.1 < P.1) : ucl (s.data.toList.drop k) (setOf l) = ucl (s.data.toList.drop (k + P.2 + (Q.2 + 1))) (setOf (l ++ [(P.1, Q.1)])) := by
  have eQ : s.data.toList.drop (k + P.2 + 1) = (s.data.toList.drop k).drop (P.2 + 1) := by rw [List.drop_drop, Nat.add_assoc]
  have e2 : s.data.toList.drop (k + P.2 + (Q.2 + 1)) = (s.data.toList.drop k).drop (P.2 + 1 + Q.2) := by rw [List.drop_drop]; congr 1; omega
  have e3 : s.data.toList.drop (k + P.2) = (s.data.toList.drop k).drop P.2 := by rw [List.drop_drop]
  rw [eQ] at hQ
  rw [e3] at hd
  rw [e2, setOf_snoc]
  clear eQ e2 e3
  have e := drop_cons s k hk
  generalize s.data.toList.drop k = D at *
  subst e
  subst hP
  subst hQ
  exact ref_pair _ _ (setOf l) (fun e => h (by rw [e]; rfl)) h0 hd hz hb
end Go.Proofs.YtbeohmcmphebhaaGreatDoor
