import Derived.Test.YtbeohmcmphebhaaDoorXTk
import Derived.Test.YtbeohmcmphebhaaDoorXUUnlit
import Derived.Test.YtbeohmcmphebhaaDoorXShelf
import Derived.Deep.WholeRow
import Derived.Lib.AsciiSet
import Derived.Test.YtbeohmcmphebhaaDoorXQClass
import Derived.Test.YtbeohmcmphebhaaDoorXQClassText
namespace Go.Proofs.YtbeohmcmphebhaaDoor
open Go.RowKit
set_option linter.unusedVariables false
def szOf : Value → Nat
  | .string s => s.size
  | _ => 0
theorem list_head (u : ByteArray) (h : 0 < u.size) : u.data.toList = u[0] :: (u.extract 1 u.size).data.toList := by
  rw [cut_list]
  have := drop_cons u 0 h
  simpa using this
theorem dw_stop (p : UInt8 → Bool) (u : ByteArray) (h : 0 < u.size) (hp : p u[0] = false) : u.data.toList.dropWhile p = u.data.toList := by
  rw [list_head u h, List.dropWhile_cons, hp]; simp
theorem dw_on (p : UInt8 → Bool) (u : ByteArray) (h : 0 < u.size) (hp : p u[0] = true) : u.data.toList.dropWhile p = (u.extract 1 u.size).data.toList.dropWhile p := by
  rw [list_head u h, List.dropWhile_cons, hp]; simp
theorem ba_of_list (u : ByteArray) : (⟨u.data.toList.toArray⟩ : ByteArray) = u := by cases u; rfl
theorem ret_strl {a : ByteArray} {l : List UInt8} (h : a.data.toList = l) : Ending.returned (.string a) = .returned (.string ⟨l.toArray⟩) := by rw [← h, ba_of_list]
set_option maxHeartbeats 1000000 in
theorem trimA (s : ByteArray) (b : Nat) (p : UInt8 → Bool) (w : World) (hc : ∀ x : UInt8, w.cell? ⟨b, x.toNat, none⟩ = some (.bool (p x))) (hs : s.size ≤ maxLen) :
    Calls Tryd.prog 98 #[.string s, .pointer (some ⟨b, 0, none⟩)] w fun e w' => e = .returned (.string ⟨(s.data.toList.dropWhile p).toArray⟩) ∧ w' = w := by
  unfold maxLen at hs
  go_enter Tryd.func98, Tryd.ntmps98
  go_wp2_with fail
  go_loop [0] (fun v => ∃ u : ByteArray, v = .string u ∧ u.size ≤ s.size ∧ Hid (u.data.toList.dropWhile p = s.data.toList.dropWhile p)) (fun v => szOf v)
  case atStart => exact ⟨s, rfl, Nat.le_refl _, rfl⟩
  case round =>
    obtain ⟨u, rfl, hu, HU⟩ := hrel
    by_cases h0 : u.size = 0
    · obtain rfl := empty_of u h0
      go_wp2_with fail
      go_ret
      exact ⟨ret_strl (by rw [← HU.out]; rfl), rfl⟩
    · have h1 : (0 : Int) < u.size := by omega
      have h1' : 0 < u.size := by omega
      cases hp : p u[0] with
      | true =>
        have hk := Tryd.asciiSet_contains b u[0] true w (by rw [hc, hp])
        have HN : Hid ((u.extract 1 u.size).data.toList.dropWhile p = s.data.toList.dropWhile p) := by
          have := dw_on p u h1' hp
          exact this.symm.trans HU.out
        clear HU hp hc
        go_wp2_with (go_at_call 107; refine hk.mono ?_; rintro e w1 ⟨rfl, rfl⟩)
        go_round
        case rel => exact ⟨_, rfl, by simp; omega, HN⟩
        case measure => simp [szOf]; omega
      | false =>
        have hk := Tryd.asciiSet_contains b u[0] false w (by rw [hc, hp])
        have HN : Hid (u.data.toList = s.data.toList.dropWhile p) := by
          have := dw_stop p u h1' hp
          exact this.symm.trans HU.out
        clear HU hp hc
        go_wp2_with (go_at_call 107; refine hk.mono ?_; rintro e w1 ⟨rfl, rfl⟩)
        go_ret
        exact ⟨ret_strl HN.out, rfl⟩

theorem Tryd.zero117 : ∀ w, (zeroValue 117).run Tryd.prog w = .ok (.agg (Array.replicate 256 (.bool false))) w := by
  intro w; kernel_rfl
theorem Tryd.size117 : (Tryd.prog.info? 117).map (·.size) = some 256 := by kernel_rfl
set_option maxRecDepth 100000 in
set_option maxHeartbeats 4000000 in
theorem trimLeft_any (s cs : ByteArray) (p : UInt8 → Bool) (hpc : ∀ x, cs.data.toList.contains x = p x) (w : World) (hs : s.size ≤ maxLen) (h2 : 2 ≤ cs.size) (hl : cs.size < 4294967281) (ha : ∀ (j : Nat) b, cs.data.toList[j]? = some b → b.toNat < 128) :
    Calls Tryd.prog 88 #[.string s, .string cs] w fun e w' => e = .returned (.string ⟨(s.data.toList.dropWhile p).toArray⟩) ∧ Below w.heap.size w w' := by
  have hmk := Tryd.strings_makeASCIISet Tryd.zero117 cs w hl ha
  have ht : ∀ W : World, (∀ x : UInt8, W.cell? ⟨w.heap.size + 1, x.toNat, none⟩ = some (.bool (p x))) → _ := fun W h => trimA s (w.heap.size + 1) p W h hs
  clear ha
  have hcs : cs.size ≠ 0 := by omega
  by_cases h0 : s.size = 0
  · obtain rfl := empty_of s h0
    go_enter Tryd.func88, Tryd.ntmps88
    go_wp2_with fail
    go_ret
    exact ⟨rfl, Below.refl _ _⟩
  · have he := nonempty s h0
    have hce := nonempty cs hcs
    have hc1 : ((cs.size : Int) == 1) = false := by simp; omega
    have hsz := Lib.setCells_size cs.data.toList
    have hall := Lib.setCells_one cs.data.toList
    have hat := Lib.setCells_at cs.data.toList
    have hz : Tryd.zeroCells117.size = 256 := by kernel_rfl
    generalize Lib.setCells cs.data.toList = A at *
    have hsc : (storeCells ⟨w.heap.size + 1, 0, none⟩ A.toList 0).run Tryd.prog ((w.alloc (.cells A 117)).alloc (.cells Tryd.zeroCells117 117)) = .ok () ((w.alloc (.cells A 117)).alloc (.cells A 117)) := by
      have := run_storeCells_new (P := Tryd.prog) (w.alloc (.cells A 117)) 117 Tryd.zeroCells117 A (by rw [hsz]; exact Tryd.size117) (by rw [hsz, hz]) hall
      simpa using this
    have htt := ht ((w.alloc (.cells A 117)).alloc (.cells A 117)) (fun x => by
      have h1 := heap_alloc_last (w.alloc (.cells A 117)) (.cells A 117)
      have h2 : (w.alloc (.cells A 117)).heap.size = w.heap.size + 1 := by simp
      rw [h2] at h1
      unfold World.cell?
      simp only [h1]
      rw [hat x, hpc]; rfl)
    have HB : Hid (Below w.heap.size w ((w.alloc (.cells A 117)).alloc (.cells A 117))) := ((Below.refl _ _).alloc (Nat.le_refl _) _).alloc (by simp) _
    clear ht hat hall hz hpc
    go_enter Tryd.func88, Tryd.ntmps88
    go_wp2_with (first
      | (go_at_call 97; refine hmk.mono ?_; rintro e w1 ⟨rfl, rfl⟩)
      | (go_at_call 98; refine htt.mono ?_; rintro e w1 ⟨rfl, rfl⟩))
    go_ret
    exact ⟨rfl, HB.out⟩
end Go.Proofs.YtbeohmcmphebhaaDoor
namespace Go.Proofs.YtbeohmcmphebhaaDoor
open Go.RowKit
theorem pre_one (D : List UInt8) : Lib.hasPrefix D [45] = decide (D.headD 0 = 45) := by
  cases D with
  | nil => rfl
  | cons a r =>
    rw [Bool.eq_iff_iff]
    simp [Lib.hasPrefix]
    exact eq_comm
theorem pre_two (D : List UInt8) (h : D.headD 0 = 45) : Lib.hasPrefix D [45, 93] = decide (D.tail.headD 0 = 93) := by
  match D, h with
  | [], h => exact absurd h (by decide)
  | [a], h => simp at h; subst h; rfl
  | a :: b :: r, h =>
    simp at h; subst h
    rw [Bool.eq_iff_iff]
    simp [Lib.hasPrefix]
    exact eq_comm
theorem m_none (l : List UInt8) (h : (signAt cg l).2 = 0) : memberAt l = (0, 0, 0) := by unfold memberAt; rw [if_pos h]
theorem m_one (l : List UInt8) (h : (signAt cg l).2 ≠ 0) (h2 : ¬ (l.drop (signAt cg l).2).headD 0 = 45 ∨ (l.drop (signAt cg l).2).tail.headD 0 = 93) : memberAt l = ((signAt cg l).1, (signAt cg l).1, (signAt cg l).2) := by unfold memberAt; rw [if_neg h, if_pos h2]
theorem m_bad (l : List UInt8) (h : (signAt cg l).2 ≠ 0) (h2 : ¬ (¬ (l.drop (signAt cg l).2).headD 0 = 45 ∨ (l.drop (signAt cg l).2).tail.headD 0 = 93)) (h3 : (signAt cg (l.drop ((signAt cg l).2 + 1))).2 = 0) : memberAt l = (0, 0, 0) := by unfold memberAt; rw [if_neg h, if_neg h2, if_pos h3]
theorem m_two (l : List UInt8) (h : (signAt cg l).2 ≠ 0) (h2 : ¬ (¬ (l.drop (signAt cg l).2).headD 0 = 45 ∨ (l.drop (signAt cg l).2).tail.headD 0 = 93)) (h3 : (signAt cg (l.drop ((signAt cg l).2 + 1))).2 ≠ 0) :
    memberAt l = ((signAt cg l).1, (signAt cg (l.drop ((signAt cg l).2 + 1))).1, (signAt cg l).2 + 1 + (signAt cg (l.drop ((signAt cg l).2 + 1))).2) := by unfold memberAt; rw [if_neg h, if_neg h2, if_neg h3]
theorem drop_short (l : List UInt8) (n : Nat) (h : (l.drop n).headD 0 = 45) : n < l.length := by
  rcases Nat.lt_or_ge n l.length with h1 | h1
  · exact h1
  · rw [List.drop_eq_nil_of_le h1] at h; exact absurd h (by decide)
theorem ret_mem {a a' b b' c c' : Int} (h1 : a = a') (h2 : b = b') (h3 : c = c') : Ending.returned (.tuple #[.int .u8 a, .int .u8 b, .int .i64 c]) = .returned (.tuple #[.int .u8 a', .int .u8 b', .int .i64 c']) := by rw [h1, h2, h3]
set_option maxRecDepth 20000 in
set_option maxHeartbeats 1000000 in
theorem memberAt_any (s : ByteArray) (w : World) (hs : s.size ≤ maxLen) :
    Calls Tryd.prog 103 #[.string s] w fun e w' => e = .returned (.tuple #[.int .u8 ((memberAt s.data.toList).1 : Int), .int .u8 ((memberAt s.data.toList).2.1 : Int), .int .i64 ((memberAt s.data.toList).2.2 : Int)]) ∧ ∃ n, w' = w.drewN n := by
  have hs' := hs
  unfold maxLen at hs
  have hP := signAt_lt cg s.data.toList
  rw [llen] at hP
  by_cases hz : (signAt cg s.data.toList).2 = 0
  · rw [m_none _ hz]
    generalize hPP : signAt cg s.data.toList = P at *
    have HP : Hid (signAt cg s.data.toList = P) := hPP
    have hx : ((P.2 : Int) == 0) = true := by simp; omega
    clear hPP hz
    go_enter Tryd.func103, Tryd.ntmps103
    go_wp2_with fail
    refine (signAt_any s ⟨#[91, 93, 45, 94, 92]⟩ _ hs').mono ?_
    rintro e w1 ⟨rfl, n1, rfl⟩
    rw [show signAt (⟨#[91, 93, 45, 94, 92]⟩ : ByteArray).data.toList s.data.toList = P from HP.out]
    go_wp2_with fail
    go_ret3
    exact ⟨rfl, n1, rfl⟩
  · have hm1 := m_one s.data.toList hz
    have hm2 := m_bad s.data.toList hz
    have hm3 := m_two s.data.toList hz
    have hp1 := pre_one (s.data.toList.drop (signAt cg s.data.toList).2)
    have hp2 := pre_two (s.data.toList.drop (signAt cg s.data.toList).2)
    have hds := drop_short s.data.toList (signAt cg s.data.toList).2
    rw [llen] at hds
    generalize hM : memberAt s.data.toList = M at *
    generalize hPP : signAt cg s.data.toList = P at *
    have HP : Hid (signAt cg s.data.toList = P) := hPP
    have hx : ((P.2 : Int) == 0) = false := by simp; omega
    have hP2 : (P.2 : Int) ≤ (s.size : Int) := by omega
    clear hPP hM
    by_cases h45 : (s.data.toList.drop P.2).headD 0 = 45
    · have hp3 := hp2 h45
      have hlt := hds h45
      rw [decide_eq_true h45] at hp1
      by_cases h93 : (s.data.toList.drop P.2).tail.headD 0 = 93
      · have HM : Hid (M = _) := hm1 (.inr h93)
        rw [decide_eq_true h93] at hp3
        have H1 : Hid (Lib.hasPrefix (s.data.toList.drop P.2) [45] = true) := hp1
        have H2 : Hid (Lib.hasPrefix (s.data.toList.drop P.2) [45, 93] = true) := hp3
        clear hm1 hm2 hm3 hp1 hp2 hp3 hds h45 h93
        go_enter Tryd.func103, Tryd.ntmps103
        go_wp2_with fail
        refine (signAt_any s ⟨#[91, 93, 45, 94, 92]⟩ _ hs').mono ?_
        rintro e w1 ⟨rfl, n1, rfl⟩
        rw [show signAt (⟨#[91, 93, 45, 94, 92]⟩ : ByteArray).data.toList s.data.toList = P from HP.out]
        go_wp2_with fail
        refine (Tryd.strings_HasPrefix (s.extract P.2 s.size) ⟨#[45]⟩ _).mono ?_
        rintro e w2 ⟨rfl, rfl⟩
        rw [cut_list, show Lib.hasPrefix (s.data.toList.drop P.2) (⟨#[45]⟩ : ByteArray).data.toList = true from H1.out]
        go_wp2_with fail
        refine (Tryd.strings_HasPrefix (s.extract P.2 s.size) ⟨#[45, 93]⟩ _).mono ?_
        rintro e w2 ⟨rfl, rfl⟩
        rw [cut_list, show Lib.hasPrefix (s.data.toList.drop P.2) (⟨#[45, 93]⟩ : ByteArray).data.toList = true from H2.out]
        go_wp2_with fail
        go_ret3
        exact ⟨ret_mem (by rw [HM.out]) (by rw [HM.out]) (by rw [HM.out]), n1, rfl⟩
      · rw [decide_eq_false h93] at hp3
        have H1 : Hid (Lib.hasPrefix (s.data.toList.drop P.2) [45] = true) := hp1
        have H2 : Hid (Lib.hasPrefix (s.data.toList.drop P.2) [45, 93] = false) := hp3
        have hno : ¬ (¬ (s.data.toList.drop P.2).headD 0 = 45 ∨ (s.data.toList.drop P.2).tail.headD 0 = 93) := fun h => by
          rcases h with h | h
          · exact h h45
          · exact h93 h
        have hQ := signAt_lt cg (s.data.toList.drop (P.2 + 1))
        rw [List.length_drop, llen] at hQ
        have hm4 := hm2 hno
        have hm5 := hm3 hno
        clear hm1 hm2 hm3 hp1 hp2 hp3 hds h45 h93 hno
        generalize hQQ : signAt cg (s.data.toList.drop (P.2 + 1)) = Q at *
        have HQ : Hid (signAt cg (s.data.toList.drop (P.2 + 1)) = Q) := hQQ
        clear hQQ
        have hP3 : (P.2 : Int) + 1 ≤ (s.size : Int) := by omega
        have hor : (((Q.2 : Int) == 0) = true ∧ Hid (M = (0, 0, 0))) ∨ (((Q.2 : Int) == 0) = false ∧ Hid (M = (P.1, Q.1, P.2 + 1 + Q.2))) := by
          by_cases e : Q.2 = 0
          · exact .inl ⟨by simp; omega, hm4 e⟩
          · exact .inr ⟨by simp; omega, hm5 e⟩
        clear hm4 hm5
        have hQ1 : (Q.2 : Int) ≤ (s.size : Int) - ((P.2 : Int) + 1) := by omega
        rcases hor with ⟨hq, HM⟩ | ⟨hq, HM⟩
        all_goals
          go_enter Tryd.func103, Tryd.ntmps103
          go_wp2_with fail
          refine (signAt_any s ⟨#[91, 93, 45, 94, 92]⟩ _ hs').mono ?_
          rintro e w1 ⟨rfl, n1, rfl⟩
          rw [show signAt (⟨#[91, 93, 45, 94, 92]⟩ : ByteArray).data.toList s.data.toList = P from HP.out]
          go_wp2_with fail
          refine (Tryd.strings_HasPrefix (s.extract P.2 s.size) ⟨#[45]⟩ _).mono ?_
          rintro e w2 ⟨rfl, rfl⟩
          rw [cut_list, show Lib.hasPrefix (s.data.toList.drop P.2) (⟨#[45]⟩ : ByteArray).data.toList = true from H1.out]
          go_wp2_with fail
          refine (Tryd.strings_HasPrefix (s.extract P.2 s.size) ⟨#[45, 93]⟩ _).mono ?_
          rintro e w2 ⟨rfl, rfl⟩
          rw [cut_list, show Lib.hasPrefix (s.data.toList.drop P.2) (⟨#[45, 93]⟩ : ByteArray).data.toList = false from H2.out]
          go_wp2_with fail
          refine (signAt_any (s.extract (P.2 + 1) s.size) ⟨#[91, 93, 45, 94, 92]⟩ _ (by have := cut_size s (P.2 + 1); unfold maxLen; omega)).mono ?_
          rintro e w1 ⟨rfl, n2, rfl⟩
          rw [cut_list, show signAt (⟨#[91, 93, 45, 94, 92]⟩ : ByteArray).data.toList (s.data.toList.drop (P.2 + 1)) = Q from HQ.out]
          go_wp2_with fail
          go_ret3
          first
          | exact ⟨ret_mem (by rw [HM.out]; rfl) (by rw [HM.out]; rfl) (by rw [HM.out]; rfl), _, rfl⟩
          | exact ⟨ret_mem (by rw [HM.out]) (by rw [HM.out]) (by rw [HM.out]; show _ = ((P.2 + 1 + Q.2 : Nat) : Int); omega), _, rfl⟩
    · have HM : Hid (M = _) := hm1 (.inl h45)
      rw [decide_eq_false h45] at hp1
      have H1 : Hid (Lib.hasPrefix (s.data.toList.drop P.2) [45] = false) := hp1
      clear hm1 hm2 hm3 hp1 hp2 hds h45
      go_enter Tryd.func103, Tryd.ntmps103
      go_wp2_with fail
      refine (signAt_any s ⟨#[91, 93, 45, 94, 92]⟩ _ hs').mono ?_
      rintro e w1 ⟨rfl, n1, rfl⟩
      rw [show signAt (⟨#[91, 93, 45, 94, 92]⟩ : ByteArray).data.toList s.data.toList = P from HP.out]
      go_wp2_with fail
      refine (Tryd.strings_HasPrefix (s.extract P.2 s.size) ⟨#[45]⟩ _).mono ?_
      rintro e w2 ⟨rfl, rfl⟩
      rw [cut_list, show Lib.hasPrefix (s.data.toList.drop P.2) (⟨#[45]⟩ : ByteArray).data.toList = false from H1.out]
      go_wp2_with fail
      go_ret3
      exact ⟨ret_mem (by rw [HM.out]) (by rw [HM.out]) (by rw [HM.out]), n1, rfl⟩
end Go.Proofs.YtbeohmcmphebhaaDoor
