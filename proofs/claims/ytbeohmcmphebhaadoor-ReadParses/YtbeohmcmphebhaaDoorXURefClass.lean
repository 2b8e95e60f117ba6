import Derived.Test.YtbeohmcmphebhaaDoorXTk
import Derived.Test.YtbeohmcmphebhaaDoorXUUnlit
import Derived.Test.YtbeohmcmphebhaaDoorXShelf
import Derived.Deep.WholeRow
import Derived.Lib.AsciiSet
import Derived.Test.YtbeohmcmphebhaaDoorXUUnclass
import Derived.Test.YtbeohmcmphebhaaDoorXURefLit
namespace Go.Proofs.YtbeohmcmphebhaaDoor
open Go.RowKit
set_option linter.unusedVariables false
def szOf : Value → Nat
  | .string s => s.size
  | _ => 0
theorem list_head (u : ByteArray) (h : 0 < u.size) : u.data.toList = u[0] :: (u.extract 1 u.size).data.toList := by
  rw [cut_list]
  have := drop_cons u 0 h
  simpa using this
theorem dw_stop (p : UInt8 → Bool) (u : ByteArray) (h : 0 < u.size) (hp : p u[0] = false) : u.data.toList.dropWhile p = u.data.toList := by
  rw [list_head u h, List.dropWhile_cons, hp]; simp
theorem dw_on (p : UInt8 → Bool) (u : ByteArray) (h : 0 < u.size) (hp : p u[0] = true) : u.data.toList.dropWhile p = (u.extract 1 u.size).data.toList.dropWhile p := by
  rw [list_head u h, List.dropWhile_cons, hp]; simp
theorem ba_of_list (u : ByteArray) : (⟨u.data.toList.toArray⟩ : ByteArray) = u := by cases u; rfl
theorem ret_strl {a : ByteArray} {l : List UInt8} (h : a.data.toList = l) : Ending.returned (.string a) = .returned (.string ⟨l.toArray⟩) := by rw [← h, ba_of_list]
set_option maxHeartbeats 1000000 in
theorem trimA (s : ByteArray) (b : Nat) (p : UInt8 → Bool) (w : World) (hc : ∀ x : UInt8, w.cell? ⟨b, x.toNat, none⟩ = some (.bool (p x))) (hs : s.size ≤ maxLen) :
    Calls Tryd.prog 98 #[.string s, .pointer (some ⟨b, 0, none⟩)] w fun e w' => e = .returned (.string ⟨(s.data.toList.dropWhile p).toArray⟩) ∧ w' = w := by
  unfold maxLen at hs
  go_enter Tryd.func98, Tryd.ntmps98
  go_wp2_with fail
  go_loop [0] (fun v => ∃ u : ByteArray, v = .string u ∧ u.size ≤ s.size ∧ Hid (u.data.toList.dropWhile p = s.data.toList.dropWhile p)) (fun v => szOf v)
  case atStart => exact ⟨s, rfl, Nat.le_refl _, rfl⟩
  case round =>
    obtain ⟨u, rfl, hu, HU⟩ := hrel
    by_cases h0 : u.size = 0
    · obtain rfl := empty_of u h0
      go_wp2_with fail
      go_ret
      exact ⟨ret_strl (by rw [← HU.out]; rfl), rfl⟩
    · have h1 : (0 : Int) < u.size := by omega
      have h1' : 0 < u.size := by omega
      cases hp : p u[0] with
      | true =>
        have hk := Tryd.asciiSet_contains b u[0] true w (by rw [hc, hp])
        have HN : Hid ((u.extract 1 u.size).data.toList.dropWhile p = s.data.toList.dropWhile p) := by
          have := dw_on p u h1' hp
          exact this.symm.trans HU.out
        clear HU hp hc
        go_wp2_with (go_at_call 107; refine hk.mono ?_; rintro e w1 ⟨rfl, rfl⟩)
        go_round
        case rel => exact ⟨_, rfl, by simp; omega, HN⟩
        case measure => simp [szOf]; omega
      | false =>
        have hk := Tryd.asciiSet_contains b u[0] false w (by rw [hc, hp])
        have HN : Hid (u.data.toList = s.data.toList.dropWhile p) := by
          have := dw_stop p u h1' hp
          exact this.symm.trans HU.out
        clear HU hp hc
        go_wp2_with (go_at_call 107; refine hk.mono ?_; rintro e w1 ⟨rfl, rfl⟩)
        go_ret
        exact ⟨ret_strl HN.out, rfl⟩

theorem Tryd.zero117 : ∀ w, (zeroValue 117).run Tryd.prog w = .ok (.agg (Array.replicate 256 (.bool false))) w := by
  intro w; kernel_rfl
theorem Tryd.size117 : (Tryd.prog.info? 117).map (·.size) = some 256 := by kernel_rfl
set_option maxRecDepth 100000 in
set_option maxHeartbeats 4000000 in
theorem trimLeft_any (s cs : ByteArray) (p : UInt8 → Bool) (hpc : ∀ x, cs.data.toList.contains x = p x) (w : World) (hs : s.size ≤ maxLen) (h2 : 2 ≤ cs.size) (hl : cs.size < 4294967281) (ha : ∀ (j : Nat) b, cs.data.toList[j]? = some b → b.toNat < 128) :
    Calls Tryd.prog 88 #[.string s, .string cs] w fun e w' => e = .returned (.string ⟨(s.data.toList.dropWhile p).toArray⟩) ∧ Below w.heap.size w w' := by
  have hmk := Tryd.strings_makeASCIISet Tryd.zero117 cs w hl ha
  have ht : ∀ W : World, (∀ x : UInt8, W.cell? ⟨w.heap.size + 1, x.toNat, none⟩ = some (.bool (p x))) → _ := fun W h => trimA s (w.heap.size + 1) p W h hs
  clear ha
  have hcs : cs.size ≠ 0 := by omega
  by_cases h0 : s.size = 0
  · obtain rfl := empty_of s h0
    go_enter Tryd.func88, Tryd.ntmps88
    go_wp2_with fail
    go_ret
    exact ⟨rfl, Below.refl _ _⟩
  · have he := nonempty s h0
    have hce := nonempty cs hcs
    have hc1 : ((cs.size : Int) == 1) = false := by simp; omega
    have hsz := Lib.setCells_size cs.data.toList
    have hall := Lib.setCells_one cs.data.toList
    have hat := Lib.setCells_at cs.data.toList
    have hz : Tryd.zeroCells117.size = 256 := by kernel_rfl
    generalize Lib.setCells cs.data.toList = A at *
    have hsc : (storeCells ⟨w.heap.size + 1, 0, none⟩ A.toList 0).run Tryd.prog ((w.alloc (.cells A 117)).alloc (.cells Tryd.zeroCells117 117)) = .ok () ((w.alloc (.cells A 117)).alloc (.cells A 117)) := by
      have := run_storeCells_new (P := Tryd.prog) (w.alloc (.cells A 117)) 117 Tryd.zeroCells117 A (by rw [hsz]; exact Tryd.size117) (by rw [hsz, hz]) hall
      simpa using this
    have htt := ht ((w.alloc (.cells A 117)).alloc (.cells A 117)) (fun x => by
      have h1 := heap_alloc_last (w.alloc (.cells A 117)) (.cells A 117)
      have h2 : (w.alloc (.cells A 117)).heap.size = w.heap.size + 1 := by simp
      rw [h2] at h1
      unfold World.cell?
      simp only [h1]
      rw [hat x, hpc]; rfl)
    have HB : Hid (Below w.heap.size w ((w.alloc (.cells A 117)).alloc (.cells A 117))) := ((Below.refl _ _).alloc (Nat.le_refl _) _).alloc (by simp) _
    clear ht hat hall hz hpc
    go_enter Tryd.func88, Tryd.ntmps88
    go_wp2_with (first
      | (go_at_call 97; refine hmk.mono ?_; rintro e w1 ⟨rfl, rfl⟩)
      | (go_at_call 98; refine htt.mono ?_; rintro e w1 ⟨rfl, rfl⟩))
    go_ret
    exact ⟨rfl, HB.out⟩
end Go.Proofs.YtbeohmcmphebhaaDoor
namespace Go.Proofs.YtbeohmcmphebhaaDoor
open Go.RowKit
/-- Pairs of numbers as cells. -/
def pcs (l : List (Nat × Nat)) : List Value := l.flatMap fun x => [.int .i64 (x.1 : Int), .int .i64 (x.2 : Int)]
theorem pcs_app (l m : List (Nat × Nat)) : pcs (l ++ m) = pcs l ++ pcs m := by simp [pcs]
theorem pcs_len (l : List (Nat × Nat)) : (pcs l).length = l.length * 2 := by
  induction l with
  | nil => rfl
  | cons a l ih => rw [show pcs (a :: l) = [.int .i64 (a.1 : Int), .int .i64 (a.2 : Int)] ++ pcs l from rfl, List.length_append, ih]; simp; omega
/-- A byte lies in one of the pairs. -/
def hit (l : List (Nat × Nat)) (b : Nat) : Bool := l.any fun x => decide (x.1 ≤ b) && decide (b ≤ x.2)
/-- The set of the pairs. -/
def setOf (l : List (Nat × Nat)) : BitVec 256 := upto (hit l) 256
theorem setOf_nil : setOf [] = 0#256 := by
  apply set_ext; intro i hi
  unfold setOf; rw [getLsbD_upto _ _ _ hi]; simp [hit]
theorem setOf_snoc (l : List (Nat × Nat)) (a b : Nat) : setOf (l ++ [(a, b)]) = setOf l ||| rng a b := by
  apply set_ext; intro i hi
  rw [BitVec.getLsbD_or, rng_bit _ _ i hi]
  unfold setOf
  rw [getLsbD_upto _ _ _ hi, getLsbD_upto _ _ _ hi]
  simp [hit, hi]
theorem setOf_ne (l : List (Nat × Nat)) (n : Bool) : upto (fun b => hit l b != n) 256 = if n then ~~~(setOf l) else setOf l := by
  apply set_ext; intro i hi
  rw [getLsbD_upto _ _ _ hi]
  cases n
  · simp only [Bool.false_eq_true, if_false]
    unfold setOf; rw [getLsbD_upto _ _ _ hi]; simp [hi]
  · simp only [if_true]
    rw [BitVec.getLsbD_not]
    unfold setOf; rw [getLsbD_upto _ _ _ hi]; simp [hi]
end Go.Proofs.YtbeohmcmphebhaaDoor
namespace Go.Proofs.YtbeohmcmphebhaaDoor
open Go.RowKit
theorem gd_cg (c : UInt8) (h : gd cg c = true) : 33 ≤ c.toNat ∧ c.toNat ≤ 126 := by
  simp only [gd, cg, Lib.indexByte] at h
  by_cases h1 : (91 : UInt8) == c
  · have := beq_iff_eq.1 h1; subst this; decide
  · by_cases h2 : (93 : UInt8) == c
    · have := beq_iff_eq.1 h2; subst this; decide
    · by_cases h3 : (45 : UInt8) == c
      · have := beq_iff_eq.1 h3; subst this; decide
      · by_cases h4 : (94 : UInt8) == c
        · have := beq_iff_eq.1 h4; subst this; decide
        · by_cases h5 : (92 : UInt8) == c
          · have := beq_iff_eq.1 h5; subst this; decide
          · simp [h1, h2, h3, h4, h5] at h
set_option maxHeartbeats 1000000 in
theorem start_zero (S : BitVec 256) (k : Nat) (h : inS S k = true) (h0 : k = 0) : start S k = true := by subst h0; simp [start, h]
theorem start_yes (S : BitVec 256) (k : Nat) (h : inS S k = true) (h1 : inS S (k - 1) = false) : start S k = true := by simp [start, h, h1]
theorem eor_same (S : BitVec 256) (k m : Nat) (h : eor S (k + m - 1) = eor S k) (hm : 1 ≤ m) (hk : k + m < 256) (hi : inS S (k + m) = true) : eor S (k + (m + 1) - 1) = eor S k := by
  rw [← h, eor_yes S (k + m - 1) (by omega) (by rw [show k + m - 1 + 1 = k + m from by omega]; exact hi)]
  congr 1; omega
theorem eor_fin (S : BitVec 256) (k m : Nat) (h : eor S (k + m - 1) = eor S k) (hm : 1 ≤ m) (hk : k + m ≤ 256) (hi : k + m = 256 ∨ inS S (k + m) = false) : eor S k = k + m - 1 := by
  rw [← h]
  rcases hi with hi | hi
  · exact eor_end S _ (by omega)
  · by_cases e : k + m = 256
    · exact eor_end S _ (by omega)
    · exact eor_no S _ (by omega) (by rw [show k + m - 1 + 1 = k + m from by omega]; exact hi)
end Go.Proofs.YtbeohmcmphebhaaDoor
