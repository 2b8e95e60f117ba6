import Derived.Test.YtbeohmcmphebhaaGreatDoorXURef
import Derived.Test.YtbeohmcmphebhaaGreatDoorXQClass
import Derived.Test.YtbeohmcmphebhaaGreatDoorXTk
import Derived.Test.YtbeohmcmphebhaaGreatDoorXUOps
namespace Go.Proofs.YtbeohmcmphebhaaGreatDoor
open Go.RowKit
theorem pre_one (D : List UInt8) : Lib.hasPrefix D [45] = decide (D.headD 0 = 45) := by
  cases D with
  | nil => rfl
  | cons a r =>
    rw [Bool.eq_iff_iff]
    simp [Lib.hasPrefix]
    exact eq_comm
theorem pre_two (D : List UInt8) (h : D.headD 0 = 45) : Lib.hasPrefix D [45, 93] = decide (D.tail.headD 0 = 93) := by
  match D, h with
  | [], h => exact absurd h (by decide)
  | [a], h => simp at h; subst h; rfl
  | a :: b :: r, h =>
    simp at h; subst h
    rw [Bool.eq_iff_iff]
    simp [Lib.hasPrefix]
    exact eq_comm
theorem m_none (l : List UInt8) (h : (signAt cg l).2 = 0) : memberAt l = (0, 0, 0) := by unfold memberAt; rw [if_pos h]
theorem m_one (l : List UInt8) (h : (signAt cg l).2 ≠ 0) (h2 : ¬ (l.drop (signAt cg l).2).headD 0 = 45 ∨ (l.drop (signAt cg l).2).tail.headD 0 = 93) : memberAt l = ((signAt cg l).1, (signAt cg l).1, (signAt cg l).2) := by unfold memberAt; rw [if_neg h, if_pos h2]
theorem m_bad (l : List UInt8) (h : (signAt cg l).2 ≠ 0) (h2 : ¬ (¬ (l.drop (signAt cg l).2).headD 0 = 45 ∨ (l.drop (signAt cg l).2).tail.headD 0 = 93)) (h3 : (signAt cg (l.drop ((signAt cg l).2 + 1))).2 = 0) : memberAt l = (0, 0, 0) := by unfold memberAt; rw [if_neg h, if_neg h2, if_pos h3]
theorem m_two (l : List UInt8) (h : (signAt cg l).2 ≠ 0) (h2 : ¬ (¬ (l.drop (signAt cg l).2).headD 0 = 45 ∨ (l.drop (signAt cg l).2).tail.headD 0 = 93)) (h3 : (signAt cg (l.drop ((signAt cg l).2 + 1))).2 ≠ 0) :
    memberAt l = ((signAt cg l).1, (signAt cg (l.drop ((signAt cg l).2 + 1))).1, (signAt cg l).2 + 1 + (signAt cg (l.drop ((signAt cg l).2 + 1))).2) := by unfold memberAt; rw [if_neg h, if_neg h2, if_neg h3]
theorem drop_short (l : List UInt8) (n : Nat) (h : (l.drop n).headD 0 = 45) : n < l.length := by
  rcases Nat.lt_or_ge n l.length with h1 | h1
  · exact h1
  · rw [List.drop_eq_nil_of_le h1] at h; exact absurd h (by decide)
theorem ret_mem {a a' b b' c c' : Int} (h1 : a = a') (h2 : b = b') (h3 : c = c') : Ending.returned (.tuple #[.int .u8 a, .int .u8 b, .int .i64 c]) = .returned (.tuple #[.int .u8 a', .int .u8 b', .int .i64 c']) := by rw [h1, h2, h3]
set_option maxRecDepth 20000 in
set_option maxHeartbeats 1000000 in
theorem memberAt_any (s : ByteArray) (w : World) (hs : s.size ≤ maxLen) :
    Calls Tryz.prog 120 #[.string s] w fun e w' => e = .returned (.tuple #[.int .u8 ((memberAt s.data.toList).1 : Int), .int .u8 ((memberAt s.data.toList).2.1 : Int), .int .i64 ((memberAt s.data.toList).2.2 : Int)]) ∧ ∃ n, w' = w.drewN n := by
  have hs' := hs
  unfold maxLen at hs
  have hP := signAt_lt cg s.data.toList
  rw [llen] at hP
  by_cases hz : (signAt cg s.data.toList).2 = 0
  · rw [m_none _ hz]
    generalize hPP : signAt cg s.data.toList = P at *
    have HP : Hid (signAt cg s.data.toList = P) := hPP
    have hx : ((P.2 : Int) == 0) = true := by simp; omega
    clear hPP hz
    go_enter Tryz.func120, Tryz.ntmps120
    go_wp2_with fail
    refine (signAt_any s ⟨#[91, 93, 45, 94, 92]⟩ _ hs').mono ?_
    rintro e w1 ⟨rfl, n1, rfl⟩
    rw [show signAt (⟨#[91, 93, 45, 94, 92]⟩ : ByteArray).data.toList s.data.toList = P from HP.out]
    go_wp2_with fail
    go_ret3
    exact ⟨rfl, n1, rfl⟩
  · have hm1 := m_one s.data.toList hz
    have hm2 := m_bad s.data.toList hz
    have hm3 := m_two s.data.toList hz
    have hp1 := pre_one (s.data.toList.drop (signAt cg s.data.toList).2)
    have hp2 := pre_two (s.data.toList.drop (signAt cg s.data.toList).2)
    have hds := drop_short s.data.toList (signAt cg s.data.toList).2
    rw [llen] at hds
    generalize hM : memberAt s.data.toList = M at *
    generalize hPP : signAt cg s.data.toList = P at *
    have HP : Hid (signAt cg s.data.toList = P) := hPP
    have hx : ((P.2 : Int) == 0) = false := by simp; omega
    have hP2 : (P.2 : Int) ≤ (s.size : Int) := by omega
    clear hPP hM
    by_cases h45 : (s.data.toList.drop P.2).headD 0 = 45
    · have hp3 := hp2 h45
      have hlt := hds h45
      rw [decide_eq_true h45] at hp1
      by_cases h93 : (s.data.toList.drop P.2).tail.headD 0 = 93
      · have HM : Hid (M = _) := hm1 (.inr h93)
        rw [decide_eq_true h93] at hp3
        have H1 : Hid (Lib.hasPrefix (s.data.toList.drop P.2) [45] = true) := hp1
        have H2 : Hid (Lib.hasPrefix (s.data.toList.drop P.2) [45, 93] = true) := hp3
        clear hm1 hm2 hm3 hp1 hp2 hp3 hds h45 h93
        go_enter Tryz.func120, Tryz.ntmps120
        go_wp2_with fail
        refine (signAt_any s ⟨#[91, 93, 45, 94, 92]⟩ _ hs').mono ?_
        rintro e w1 ⟨rfl, n1, rfl⟩
        rw [show signAt (⟨#[91, 93, 45, 94, 92]⟩ : ByteArray).data.toList s.data.toList = P from HP.out]
        go_wp2_with fail
        refine (Tryz.strings_HasPrefix (s.extract P.2 s.size) ⟨#[45]⟩ _).mono ?_
        rintro e w2 ⟨rfl, rfl⟩
        rw [cut_list, show Lib.hasPrefix (s.data.toList.drop P.2) (⟨#[45]⟩ : ByteArray).data.toList = true from H1.out]
        go_wp2_with fail
        refine (Tryz.strings_HasPrefix (s.extract P.2 s.size) ⟨#[45, 93]⟩ _).mono ?_
        rintro e w2 ⟨rfl, rfl⟩
        rw [cut_list, show Lib.hasPrefix (s.data.toList.drop P.2) (⟨#[45, 93]⟩ : ByteArray).data.toList = true from H2.out]
        go_wp2_with fail
        go_ret3
        exact ⟨ret_mem (by rw [HM.out]) (by rw [HM.out]) (by rw [HM.out]), n1, rfl⟩
      · rw [decide_eq_false h93] at hp3
        have H1 : Hid (Lib.hasPrefix (s.data.toList.drop P.2) [45] = true) := hp1
        have H2 : Hid (Lib.hasPrefix (s.data.toList.drop P.2) [45, 93] = false) := hp3
        have hno : ¬ (¬ (s.data.toList.drop P.2).headD 0 = 45 ∨ (s.data.toList.drop P.2).tail.headD 0 = 93) := fun h => by
          rcases h with h | h
          · exact h h45
          · exact h93 h
        have hQ := signAt_lt cg (s.data.toList.drop (P.2 + 1))
        rw [List.length_drop, llen] at hQ
        have hm4 := hm2 hno
        have hm5 := hm3 hno
        clear hm1 hm2 hm3 hp1 hp2 hp3 hds h45 h93 hno
        generalize hQQ : signAt cg (s.data.toList.drop (P.2 + 1)) = Q at *
        have HQ : Hid (signAt cg (s.data.toList.drop (P.2 + 1)) = Q) := hQQ
        clear hQQ
        have hP3 : (P.2 : Int) + 1 ≤ (s.size : Int) := by omega
        have hor : (((Q.2 : Int) == 0) = true ∧ Hid (M = (0, 0, 0))) ∨ (((Q.2 : Int) == 0) = false ∧ Hid (M = (P.1, Q.1, P.2 + 1 + Q.2))) := by
          by_cases e : Q.2 = 0
          · exact .inl ⟨by simp; omega, hm4 e⟩
          · exact .inr ⟨by simp; omega, hm5 e⟩
        clear hm4 hm5
        have hQ1 : (Q.2 : Int) ≤ (s.size : Int) - ((P.2 : Int) + 1) := by omega
        rcases hor with ⟨hq, HM⟩ | ⟨hq, HM⟩
        all_goals
          go_enter Tryz.func120, Tryz.ntmps120
          go_wp2_with fail
          refine (signAt_any s ⟨#[91, 93, 45, 94, 92]⟩ _ hs').mono ?_
          rintro e w1 ⟨rfl, n1, rfl⟩
          rw [show signAt (⟨#[91, 93, 45, 94, 92]⟩ : ByteArray).data.toList s.data.toList = P from HP.out]
          go_wp2_with fail
          refine (Tryz.strings_HasPrefix (s.extract P.2 s.size) ⟨#[45]⟩ _).mono ?_
          rintro e w2 ⟨rfl, rfl⟩
          rw [cut_list, show Lib.hasPrefix (s.data.toList.drop P.2) (⟨#[45]⟩ : ByteArray).data.toList = true from H1.out]
          go_wp2_with fail
          refine (Tryz.strings_HasPrefix (s.extract P.2 s.size) ⟨#[45, 93]⟩ _).mono ?_
          rintro e w2 ⟨rfl, rfl⟩
          rw [cut_list, show Lib.hasPrefix (s.data.toList.drop P.2) (⟨#[45, 93]⟩ : ByteArray).data.toList = false from H2.out]
          go_wp2_with fail
          refine (signAt_any (s.extract (P.2 + 1) s.size) ⟨#[91, 93, 45, 94, 92]⟩ _ (by have := cut_size s (P.2 + 1); unfold maxLen; omega)).mono ?_
          rintro e w1 ⟨rfl, n2, rfl⟩
          rw [cut_list, show signAt (⟨#[91, 93, 45, 94, 92]⟩ : ByteArray).data.toList (s.data.toList.drop (P.2 + 1)) = Q from HQ.out]
          go_wp2_with fail
          go_ret3
          first
          | exact ⟨ret_mem (by rw [HM.out]; rfl) (by rw [HM.out]; rfl) (by rw [HM.out]; rfl), _, rfl⟩
          | exact ⟨ret_mem (by rw [HM.out]) (by rw [HM.out]) (by rw [HM.out]; show _ = ((P.2 + 1 + Q.2 : Nat) : Int); omega), _, rfl⟩
    · have HM : Hid (M = _) := hm1 (.inl h45)
      rw [decide_eq_false h45] at hp1
      have H1 : Hid (Lib.hasPrefix (s.data.toList.drop P.2) [45] = false) := hp1
      clear hm1 hm2 hm3 hp1 hp2 hds h45
      go_enter Tryz.func120, Tryz.ntmps120
      go_wp2_with fail
      refine (signAt_any s ⟨#[91, 93, 45, 94, 92]⟩ _ hs').mono ?_
      rintro e w1 ⟨rfl, n1, rfl⟩
      rw [show signAt (⟨#[91, 93, 45, 94, 92]⟩ : ByteArray).data.toList s.data.toList = P from HP.out]
      go_wp2_with fail
      refine (Tryz.strings_HasPrefix (s.extract P.2 s.size) ⟨#[45]⟩ _).mono ?_
      rintro e w2 ⟨rfl, rfl⟩
      rw [cut_list, show Lib.hasPrefix (s.data.toList.drop P.2) (⟨#[45]⟩ : ByteArray).data.toList = false from H1.out]
      go_wp2_with fail
      go_ret3
      exact ⟨ret_mem (by rw [HM.out]) (by rw [HM.out]) (by rw [HM.out]), n1, rfl⟩
end Go.Proofs.YtbeohmcmphebhaaGreatDoor
namespace Go.Proofs.YtbeohmcmphebhaaGreatDoor
open Go.RowKit
attribute [local go_sem] setCell_drewN alloc_drewN
theorem pre_any (D : List UInt8) (c : UInt8) (hc : c ≠ 0) : Lib.hasPrefix D [c] = decide (D.headD 0 = c) := by
  cases D with
  | nil => simp [Lib.hasPrefix]; exact fun h => hc h.symm
  | cons a r =>
    rw [Bool.eq_iff_iff]
    simp [Lib.hasPrefix]
    exact eq_comm
theorem trim_yes (D : List UInt8) (c : UInt8) (h : Lib.hasPrefix D [c] = true) : Lib.trimPrefix D [c] = D.drop 1 := by
  unfold Lib.trimPrefix; rw [if_pos h]; rfl
theorem trim_no (D : List UInt8) (c : UInt8) (h : Lib.hasPrefix D [c] = false) : Lib.trimPrefix D [c] = D := by
  unfold Lib.trimPrefix; rw [if_neg (by simp [h])]
theorem uc_none (l : List UInt8) (h : l.headD 0 ≠ 91) : unclass l = none := by unfold unclass; rw [if_neg h]
theorem wd0 (k : Nat) : wd 0#256 k = 0 := wd_zeroU k
/-- The words of a set, as cells. -/
def sw (S : BitVec 256) : Array Value := #[.int .u64 (wd S 0), .int .u64 (wd S 1), .int .u64 (wd S 2), .int .u64 (wd S 3)]
set_option maxRecDepth 20000 in
set_option maxHeartbeats 1000000 in
theorem unclass_no (s : ByteArray) (w : World) (h : s.data.toList.headD 0 ≠ 91) :
    Calls Tryz.prog 107 #[.string s] w fun e w' => e = .returned (.tuple #[.agg #[.int .u64 0, .int .u64 0, .int .u64 0, .int .u64 0], .int .i64 0, .int .i64 4]) ∧ Below w.heap.size w w' := by
  have hp := pre_any s.data.toList 91 (by decide)
  rw [decide_eq_false h] at hp
  have H1 : Hid (Lib.hasPrefix s.data.toList [91] = false) := hp
  clear hp h
  go_enter Tryz.func107, Tryz.ntmps107
  go_wp2_with fail
  refine (Tryz.strings_CutPrefix s ⟨#[91]⟩ _).mono ?_
  rintro e w1 ⟨rfl, rfl⟩
  rw [show Lib.hasPrefix s.data.toList (⟨#[91]⟩ : ByteArray).data.toList = false from H1.out]
  generalize Lib.trimPrefix s.data.toList (⟨#[91]⟩ : ByteArray).data.toList = t
  go_wp2_with fail
  exact bodyPost_ret (v := .tuple #[.agg #[.int .u64 0, .int .u64 0, .int .u64 0, .int .u64 0], .int .i64 0, .int .i64 4]) (by simp [results, Tryz.results107, go_sem]) rfl ⟨rfl, (Below.refl _ _).alloc (Nat.le_refl _) _⟩
def strLen : Value → Nat | .string s => s.size | _ => 0
theorem ba_list (l : List UInt8) : (⟨l.toArray⟩ : ByteArray).data.toList = l := by simp
theorem within_len (l : List UInt8) : (within l).length ≤ l.length := by unfold within; split <;> simp <;> omega
theorem others_eq (l : List UInt8) : Lib.hasPrefix (l.drop 1) [94] = others l := pre_any _ 94 (by decide)
theorem within_eq (l : List UInt8) : Lib.trimPrefix (l.drop 1) [94] = within l := by
  have h := others_eq l
  unfold others at h
  unfold within
  by_cases e : (l.drop 1).headD 0 = 94
  · rw [decide_eq_true e] at h; rw [trim_yes _ _ h, if_pos e, List.drop_drop]
  · rw [decide_eq_false e] at h; rw [trim_no _ _ h, if_neg e]
theorem uc_of_none (l : List UInt8) (h : l.headD 0 = 91) (hX : ucl (within l) 0#256 = none) : unclass l = none := by unfold unclass; rw [if_pos h, hX]; rfl
theorem uc_of_some (l : List UInt8) (h : l.headD 0 = 91) (acc : BitVec 256) (m : Nat) (hX : ucl (within l) 0#256 = some (acc, m)) : unclass l = some (if others l then ~~~acc else acc, l.length - m + 1) := by unfold unclass; rw [if_pos h, hX]; rfl
theorem ucl_stop (t : ByteArray) (acc : BitVec 256) (h : 0 < t.size) (h93 : t[0].toNat = 93) : ucl t.data.toList acc = some (acc, t.size) := by
  obtain ⟨⟨l⟩⟩ := t
  match l, h with
  | [], h => simp [ByteArray.size] at h
  | a :: r, h =>
    have : a = 93 := toNat_eq h93
    subst this
    rw [ucl_end]
    simp [ByteArray.size]
theorem ucl_miss (t : ByteArray) (acc : BitVec 256) (h : 0 < t.size) (h93 : t[0].toNat ≠ 93) (hb : (memberAt t.data.toList).2.2 = 0 ∨ (memberAt t.data.toList).2.1 < (memberAt t.data.toList).1) : ucl t.data.toList acc = none := by
  obtain ⟨⟨l⟩⟩ := t
  match l, h with
  | [], h => simp [ByteArray.size] at h
  | a :: r, h => exact ucl_bad a r acc (fun e => h93 (by rw [show (⟨⟨a :: r⟩⟩ : ByteArray)[0] = a from rfl, e]; rfl)) hb
theorem ucl_next (t : ByteArray) (acc : BitVec 256) (h : 0 < t.size) (h93 : t[0].toNat ≠ 93) (hb : ¬ ((memberAt t.data.toList).2.2 = 0 ∨ (memberAt t.data.toList).2.1 < (memberAt t.data.toList).1)) :
    ucl t.data.toList acc = ucl (t.data.toList.drop (memberAt t.data.toList).2.2) (acc ||| rng (memberAt t.data.toList).1 (memberAt t.data.toList).2.1) := by
  obtain ⟨⟨l⟩⟩ := t
  match l, h with
  | [], h => simp [ByteArray.size] at h
  | a :: r, h => exact ucl_on a r acc (fun e => h93 (by rw [show (⟨⟨a :: r⟩⟩ : ByteArray)[0] = a from rfl, e]; rfl)) hb
theorem ext_size (s : ByteArray) (k : Nat) : (s.extract k s.size).size = s.size - k := by simp
theorem ret_k {S S' : BitVec 256} {n n' e e' : Int} (h1 : S = S') (h2 : n = n') (h3 : e = e') : Ending.returned (.tuple #[.agg #[.int .u64 (wd S 0), .int .u64 (wd S 1), .int .u64 (wd S 2), .int .u64 (wd S 3)], .int .i64 n, .int .i64 e]) = .returned (.tuple #[.agg #[.int .u64 (wd S' 0), .int .u64 (wd S' 1), .int .u64 (wd S' 2), .int .u64 (wd S' 3)], .int .i64 n', .int .i64 e']) := by rw [h1, h2, h3]
set_option maxRecDepth 20000 in
set_option maxHeartbeats 1000000 in
theorem unclass_yes (s : ByteArray) (w : World) (hs : s.size ≤ maxLen) (h91 : s.data.toList.headD 0 = 91) (R : Option (BitVec 256 × Nat)) (hR : unclass s.data.toList = R) :
    Calls Tryz.prog 107 #[.string s] w fun e w' => e = .returned (.tuple #[.agg #[.int .u64 (wd (kS R) 0), .int .u64 (wd (kS R) 1), .int .u64 (wd (kS R) 2), .int .u64 (wd (kS R) 3)], .int .i64 (kN R), .int .i64 (kE R)]) ∧ Below w.heap.size w w' := by
  have hs' := hs
  unfold maxLen at hs
  have hp := pre_any s.data.toList 91 (by decide)
  rw [decide_eq_true h91] at hp
  have htr := trim_yes _ _ hp
  have hn := uc_of_none s.data.toList h91
  have hsome := uc_of_some s.data.toList h91
  rw [hR, llen] at hsome
  rw [hR] at hn
  have hot := others_eq s.data.toList
  have hwi := within_eq s.data.toList
  have hwl := within_len s.data.toList
  rw [llen] at hwl
  have H1 : Hid (Lib.hasPrefix s.data.toList [91] = true) := hp
  have H2 : Hid (Lib.trimPrefix s.data.toList [91] = s.data.toList.drop 1) := htr
  have H3 : Hid (Lib.hasPrefix (s.data.toList.drop 1) [94] = others s.data.toList) := hot
  have H4 : Hid (Lib.trimPrefix (s.data.toList.drop 1) [94] = within s.data.toList) := hwi
  clear hp htr hot hwi hR h91
  go_enter Tryz.func107, Tryz.ntmps107
  go_wp2_with fail
  refine (Tryz.strings_CutPrefix s ⟨#[91]⟩ _).mono ?_
  rintro e w1 ⟨rfl, rfl⟩
  rw [show Lib.hasPrefix s.data.toList (⟨#[91]⟩ : ByteArray).data.toList = true from H1.out, show Lib.trimPrefix s.data.toList (⟨#[91]⟩ : ByteArray).data.toList = s.data.toList.drop 1 from H2.out]
  have HT1 : Hid ((⟨(s.data.toList.drop 1).toArray⟩ : ByteArray).data.toList = s.data.toList.drop 1) := ba_list _
  generalize (⟨(s.data.toList.drop 1).toArray⟩ : ByteArray) = t1 at *
  go_wp2_with fail
  refine (Tryz.strings_CutPrefix t1 ⟨#[94]⟩ _).mono ?_
  rintro e w1 ⟨rfl, rfl⟩
  rw [HT1.out, show Lib.hasPrefix (s.data.toList.drop 1) (⟨#[94]⟩ : ByteArray).data.toList = others s.data.toList from H3.out, show Lib.trimPrefix (s.data.toList.drop 1) (⟨#[94]⟩ : ByteArray).data.toList = within s.data.toList from H4.out]
  have hT0 : (⟨(within s.data.toList).toArray⟩ : ByteArray).data.toList = within s.data.toList := ba_list _
  have hsz0 : (⟨(within s.data.toList).toArray⟩ : ByteArray).size ≤ s.size := by rw [mk_size]; exact hwl
  rw [← hT0] at hn hsome
  generalize (⟨(within s.data.toList).toArray⟩ : ByteArray) = t0 at *
  generalize hX : ucl t0.data.toList 0#256 = X at *
  have HN : Hid (X = none → R = none) := hn
  have HS : Hid (∀ acc m, X = some (acc, m) → R = some (if others s.data.toList then ~~~acc else acc, s.size - m + 1)) := hsome
  have HX : Hid (ucl t0.data.toList 0#256 = X) := hX
  generalize others s.data.toList = oth at *
  clear hn hsome hX hT0 HT1 H1 H2 H3 H4 hwl
  go_wp2_with fail
  go_loopw [7, 10, 11, 12] (fun v _ _ _ wx => ∃ (t : ByteArray) (acc : BitVec 256), v = .string t ∧ t.size ≤ s.size ∧ Hid (ucl t.data.toList acc = X) ∧ Below w.heap.size w wx ∧ Lies wx w.heap.size #[.int .u64 0, .int .u64 0, .int .u64 0, .int .u64 0] ∧ Lies wx (w.heap.size + 1) #[.int .u64 (wd acc 0), .int .u64 (wd acc 1), .int .u64 (wd acc 2), .int .u64 (wd acc 3)]) (fun v _ _ _ _ => strLen v)
  case atStart =>
    refine ⟨t0, 0#256, rfl, hsz0, HX, ((Below.refl _ _).alloc (Nat.le_refl _) _).alloc (by simp) _, (Lies.new w _).alloc _, ?_⟩
    simp only [wd_zeroU]
    have := Lies.new (w.alloc (.cells #[.int .u64 0, .int .u64 0, .int .u64 0, .int .u64 0] 40)) #[.int .u64 0, .int .u64 0, .int .u64 0, .int .u64 0]
    simpa using this
  case round =>
    clear hsz0 HX
    obtain ⟨t, acc, rfl, hts, HX, hB, hN, hM⟩ := hrel
    have hltN := hN.lt
    have hltM := hM.lt
    have hcN := hN.cell
    have hfN := hN.frozen
    by_cases h0 : t.size = 0
    · obtain rfl := empty_of t h0
      have HR : Hid (R = none) := HN.out (HX.out.symm.trans (ucl_nil acc))
      clear HN HS HX h0
      go_wp2_with fail
      exact bodyPost_ret (v := .tuple #[.agg #[.int .u64 0, .int .u64 0, .int .u64 0, .int .u64 0], .int .i64 0, .int .i64 4]) (by simp [results, Tryz.results107, go_sem, hcN]) rfl ⟨by rw [HR.out]; simp only [kS, kN, kE, wd_zeroU], (((hB.setCell (by simp) _).setCell (by simp) _).setCell (by simp) _).setCell (by simp) _⟩
    · have he := nonempty t h0
      have h1 : 0 < t.size := by omega
      have h1' : (0 : Int) < t.size := by omega
      by_cases h93 : t[0].toNat = 93
      · have HR : Hid (R = _) := HS.out acc t.size (HX.out.symm.trans (ucl_stop t acc h1 h93))
        have hx : ((t[0].toNat : Int) != 93) = false := by simp; omega
        clear HN HS HX h93
        have hcM := hM.cell
        have hfM := hM.frozen
        cases oth
        · go_wp2_with fail
          exact bodyPost_ret (v := .tuple #[.agg #[.int .u64 (wd acc 0), .int .u64 (wd acc 1), .int .u64 (wd acc 2), .int .u64 (wd acc 3)], .int .i64 ((s.size : Int) - (t.size : Int) + 1), .int .i64 0]) (by simp [results, Tryz.results107, go_sem, hcN]) rfl ⟨ret_k (by rw [HR.out]; rfl) (by rw [HR.out]; show _ = ((s.size - t.size + 1 : Nat) : Int); omega) (by rw [HR.out]; rfl), (((hB.setCell (by simp) _).setCell (by simp) _).setCell (by simp) _).setCell (by simp) _⟩
        · go_wp2_with fail
          refine (not_any acc _).mono ?_
          rintro e w2 ⟨rfl, hb2⟩
          have hB2 := b_call hB hb2
          have hN2 := hN.below hb2 hltN
          have hM2 := hM.below hb2 hltM
          have hltN2 := hN2.lt
          have hltM2 := hM2.lt
          have hcN2 := hN2.cell
          have hfN2 := hN2.frozen
          have hcM2 := hM2.cell
          have hfM2 := hM2.frozen
          clear hcN hfN hcM hfM hB hN hM hb2 hltN hltM
          go_wp2_with fail
          exact bodyPost_ret (v := .tuple #[.agg #[.int .u64 (wd (~~~acc) 0), .int .u64 (wd (~~~acc) 1), .int .u64 (wd (~~~acc) 2), .int .u64 (wd (~~~acc) 3)], .int .i64 ((s.size : Int) - (t.size : Int) + 1), .int .i64 0]) (by simp [results, Tryz.results107, go_sem, hcN2]) rfl ⟨ret_k (by rw [HR.out]; rfl) (by rw [HR.out]; show _ = ((s.size - t.size + 1 : Nat) : Int); omega) (by rw [HR.out]; rfl), (((((((hB2.setCell (by simp) _).setCell (by simp) _).setCell (by simp) _).setCell (by simp) _).setCell (by simp) _).setCell (by simp) _).setCell (by simp) _).setCell (by simp) _⟩
      · have hx : ((t[0].toNat : Int) != 93) = true := by simp; omega
        have hlt := memberAt_lt t.data.toList
        rw [llen] at hlt
        by_cases hb : (memberAt t.data.toList).2.2 = 0 ∨ (memberAt t.data.toList).2.1 < (memberAt t.data.toList).1
        · have HR : Hid (R = none) := HN.out (HX.out.symm.trans (ucl_miss t acc h1 h93 hb))
          have hor : (((memberAt t.data.toList).2.2 : Int) == 0) = true ∨ ((((memberAt t.data.toList).2.2 : Int) == 0) = false ∧ decide ((memberAt t.data.toList).2.1 < (memberAt t.data.toList).1) = true) := by
            by_cases e : (memberAt t.data.toList).2.2 = 0
            · left; simp; omega
            · right; simp; omega
          clear HN HS HX h93 hb
          generalize hMM : memberAt t.data.toList = M at *
          have HM : Hid (memberAt t.data.toList = M) := hMM
          clear hMM
          rcases hor with hy | ⟨hy, hz⟩
          all_goals
            go_wp2_with fail
            refine (memberAt_any t _ (by unfold maxLen; omega)).mono ?_
            rintro e w2 ⟨rfl, n1, rfl⟩
            rw [HM.out]
            go_wp2_with fail
            exact bodyPost_ret (v := .tuple #[.agg #[.int .u64 0, .int .u64 0, .int .u64 0, .int .u64 0], .int .i64 0, .int .i64 4]) (by simp [results, Tryz.results107, go_sem, hcN]) rfl ⟨by rw [HR.out]; simp only [kS, kN, kE, wd_zeroU], ((((hB.setCell (by simp) _).setCell (by simp) _).setCell (by simp) _).setCell (by simp) _).trans (Go.Joins.below_draws _ _ _)⟩
        · have HE := (ucl_next t acc h1 h93 hb).symm.trans HX.out
          have hy : (((memberAt t.data.toList).2.2 : Int) == 0) = false := by simp; omega
          have hz : decide ((memberAt t.data.toList).2.1 < (memberAt t.data.toList).1) = false := by simp; omega
          have hn0 : 0 < (memberAt t.data.toList).2.2 := by omega
          clear h93 hb HX
          generalize hMM : memberAt t.data.toList = M at *
          have HM : Hid (memberAt t.data.toList = M) := hMM
          have HX2 : Hid (ucl (t.data.toList.drop M.2.2) (acc ||| rng M.1 M.2.1) = X) := HE
          clear hMM HE
          have hcM := hM.cell
          have hfM := hM.frozen
          have hM3 : (M.2.2 : Int) ≤ (t.size : Int) := by omega
          have hM1 : (M.1 : Int) < 256 := by omega
          have hM2 : (M.2.1 : Int) < 256 := by omega
          go_wp2_with fail
          refine (memberAt_any t _ (by unfold maxLen; omega)).mono ?_
          rintro e w2 ⟨rfl, n1, rfl⟩
          rw [HM.out]
          go_wp2_with fail
          obtain ⟨w2, hw2⟩ : ∃ w2, w2 = wr.drewN n1 := ⟨_, rfl⟩
          rw [← hw2]
          have hB2 : Below w.heap.size w w2 := by rw [hw2]; exact hB.trans (Go.Joins.below_draws _ _ _)
          have hN2 : Lies w2 w.heap.size #[.int .u64 0, .int .u64 0, .int .u64 0, .int .u64 0] := by rw [hw2]; exact hN.drewN n1
          have hM2 : Lies w2 (w.heap.size + 1) #[.int .u64 (wd acc 0), .int .u64 (wd acc 1), .int .u64 (wd acc 2), .int .u64 (wd acc 3)] := by rw [hw2]; exact hM.drewN n1
          clear hw2 hB hN hM hcN hfN hcM hfM hltN hltM
          have hltN := hN2.lt
          have hltM := hM2.lt
          have hcM := hM2.cell
          have hfM := hM2.frozen
          go_region_with (first
            | (go_at_call 98; refine (range_any _ _ _).mono ?_; rintro e w3 ⟨rfl, hb3⟩; have hM3 := hM2.drew.below hb3 hltM; have hN3 := hN2.drew.below hb3 hltN; have hcM3 := hM3.cell; have hz3 := hM3.lt)
            | (go_at_call 121; refine (join_any acc _ _).mono ?_; rintro e w4 ⟨rfl, hb4⟩; have hM4 := hM3.below hb4 hz3; have hN4 := hN3.below hb4 hN3.lt; have hcM4 := hM4.cell; have hfM4 := hM4.frozen; have hz4 := hM4.lt))
          all_goals
            rw [wrapSmall (M.1 : Int) (by omega) (by omega), wrapSmall (M.2.1 : Int) (by omega) (by omega)]
            have hB4 := b_call (b_call hB2.drew hb3) hb4
            obtain ⟨A2, hA2⟩ : ∃ A2, A2 = acc ||| rng M.1 M.2.1 := ⟨_, rfl⟩
            rw [← hA2]
            have HX3 : Hid (ucl (t.data.toList.drop M.2.2) A2 = X) := by rw [hA2]; exact HX2.out
            clear hA2 HX2
            have hM5 : Lies ((((w4.setCell ⟨w.heap.size + 1, 0, none⟩ (.int .u64 (wd A2 0))).setCell ⟨w.heap.size + 1, 1, none⟩ (.int .u64 (wd A2 1))).setCell ⟨w.heap.size + 1, 2, none⟩ (.int .u64 (wd A2 2))).setCell ⟨w.heap.size + 1, 3, none⟩ (.int .u64 (wd A2 3))) (w.heap.size + 1) #[.int .u64 (wd A2 0), .int .u64 (wd A2 1), .int .u64 (wd A2 2), .int .u64 (wd A2 3)] :=
              (((hM4.set 0 _).set 1 _).set 2 _).set 3 _
            have hN5 := (((hN4.other (M := w.heap.size + 1) 0 (.int .u64 (wd A2 0)) (by omega)).other (M := w.heap.size + 1) 1 (.int .u64 (wd A2 1)) (by omega)).other (M := w.heap.size + 1) 2 (.int .u64 (wd A2 2)) (by omega)).other (M := w.heap.size + 1) 3 (.int .u64 (wd A2 3)) (by omega)
            have hB5 := (((hB4.setCell (p := ⟨w.heap.size + 1, 0, none⟩) (by simp) (.int .u64 (wd A2 0))).setCell (p := ⟨w.heap.size + 1, 1, none⟩) (by simp) (.int .u64 (wd A2 1))).setCell (p := ⟨w.heap.size + 1, 2, none⟩) (by simp) (.int .u64 (wd A2 2))).setCell (p := ⟨w.heap.size + 1, 3, none⟩) (by simp) (.int .u64 (wd A2 3))
            generalize (((w4.setCell ⟨w.heap.size + 1, 0, none⟩ (.int .u64 (wd A2 0))).setCell ⟨w.heap.size + 1, 1, none⟩ (.int .u64 (wd A2 1))).setCell ⟨w.heap.size + 1, 2, none⟩ (.int .u64 (wd A2 2))).setCell ⟨w.heap.size + 1, 3, none⟩ (.int .u64 (wd A2 3)) = w5 at *
            clear hB4 hM4 hN4 hcM4 hfM4 hb4 hb3 hM3 hN3 hcM3 hcM hfM hM2 hN2 hB2
            go_wp2_with fail
            exact ⟨⟨t.extract M.2.2 t.size, A2, rfl, by rw [ext_size]; omega, by unfold Hid; rw [cut_list]; exact HX3.out, hB5, hN5, hM5⟩, by simp only [strLen]; rw [ext_size]; omega⟩
theorem unclass_any (s : ByteArray) (w : World) (hs : s.size ≤ maxLen) :
    Calls Tryz.prog 107 #[.string s] w fun e w' => e = .returned (.tuple #[.agg #[.int .u64 (wd (kS (unclass s.data.toList)) 0), .int .u64 (wd (kS (unclass s.data.toList)) 1), .int .u64 (wd (kS (unclass s.data.toList)) 2), .int .u64 (wd (kS (unclass s.data.toList)) 3)], .int .i64 (kN (unclass s.data.toList)), .int .i64 (kE (unclass s.data.toList))]) ∧ Below w.heap.size w w' := by
  by_cases h : s.data.toList.headD 0 = 91
  · exact unclass_yes s w hs h _ rfl
  · refine (unclass_no s w h).mono ?_
    rintro e w' ⟨rfl, hb⟩
    refine ⟨?_, hb⟩
    rw [uc_none _ h]
    simp only [kS, kN, kE, wd_zeroU]
end Go.Proofs.YtbeohmcmphebhaaGreatDoor
namespace Go.Proofs.YtbeohmcmphebhaaGreatDoor
open Go.RowKit
theorem gd_perm (c : UInt8) : gd [92, 39, 34] c = gd [39, 34, 92] c := by
  simp only [gd, Lib.indexByte]
  by_cases h1 : (39 : UInt8) == c <;> by_cases h2 : (34 : UInt8) == c <;> by_cases h3 : (92 : UInt8) == c <;> simp [h1, h2, h3]
theorem signAt_perm (l : List UInt8) : signAt [92, 39, 34] l = signAt [39, 34, 92] l := by
  unfold signAt strokeAt
  simp only [gd_perm]
theorem gd_perm_lt (c : UInt8) (h : gd [92, 39, 34] c = true) : c.toNat < 128 := by
  simp only [gd, Lib.indexByte] at h
  by_cases h1 : (92 : UInt8) == c
  · have := beq_iff_eq.1 h1; subst this; decide
  · by_cases h2 : (39 : UInt8) == c
    · have := beq_iff_eq.1 h2; subst this; decide
    · by_cases h3 : (34 : UInt8) == c
      · have := beq_iff_eq.1 h3; subst this; decide
      · simp [h1, h2, h3] at h
theorem cat_list (a b : List UInt8) : (⟨a.toArray⟩ : ByteArray) ++ ⟨b.toArray⟩ = ⟨(a ++ b).toArray⟩ := by apply ByteArray.ext; simp
theorem conv_num (n : Nat) (h : n < 256) (w : World) : (convert 53 9 (.slice (some ⟨w.heap.size, 0, none⟩) 1 1)).run Tryz.prog (w.alloc (.cells #[.int .u8 (n : Int)] 5)) = .ok (.string ⟨[UInt8.ofNat n].toArray⟩) (w.alloc (.cells #[.int .u8 (n : Int)] 5)) := by
  have e := conv_one (UInt8.ofNat n) w
  rw [show ((UInt8.ofNat n).toNat : Int) = (n : Int) from by simp; omega] at e
  exact e
set_option maxHeartbeats 1000000 in
set_option maxHeartbeats 1000000 in
theorem runlit_any (s : ByteArray) (w : World) (hs : s.size ≤ 50000000) :
    Calls Tryz.prog 26 #[.string s] w fun e w' => e = .returned (.tuple #[.string ⟨(uT (unlit [39, 34, 92] s.data.toList)).toArray⟩, .int .i64 (uN (unlit [39, 34, 92] s.data.toList)), .int .i64 (uE (unlit [39, 34, 92] s.data.toList))]) ∧ Below w.heap.size w w' := by
  by_cases h0 : s.size = 0
  · obtain rfl := empty_of s h0
    go_enter Tryz.func26, Tryz.ntmps26
    go_wp2_with fail
    go_ret3
    exact ⟨rfl, Below.refl _ _⟩
  · have he := nonempty s h0
    have h1 : (0 : Int) < s.size := by omega
    have h1' : 0 < s.size := by omega
    have e1 := unlit_at [39, 34, 92] s h1'
    generalize unlit [39, 34, 92] s.data.toList = R at *
    by_cases hq : s[0].toNat = 39 ∨ s[0].toNat = 34
    · rw [if_pos hq] at e1
      have HR : Hid (R = unl s[0] [39, 34, 92] (s.data.toList.drop 1) [] 1) := e1
      clear e1
      have hor : ((s[0].toNat : Int) != 39) = false ∨ (((s[0].toNat : Int) != 39) = true ∧ ((s[0].toNat : Int) != 34) = false) := by
        by_cases h39 : s[0].toNat = 39
        · left; simp; omega
        · right; simp; omega
      clear hq
      rcases hor with hx | ⟨hx, hy⟩
      all_goals
        go_enter Tryz.func26, Tryz.ntmps26
        go_wp2_with fail
        go_loopw [5, 6, 7, 8] (fun v i _ _ wx => ∃ (k : Nat) (T : List UInt8), i = .int .i64 k ∧ 1 ≤ k ∧ k ≤ s.size ∧ T.length ≤ k ∧ v = .string ⟨T.toArray⟩ ∧ Below w.heap.size w wx ∧ R = unl s[0] [39, 34, 92] (s.data.toList.drop k) T k) (fun _ i _ _ _ => s.size - (intOf i).toNat)
        case atStart => exact ⟨1, [], rfl, by omega, by omega, by simp, rfl, Below.refl _ _, HR.out⟩
        case round =>
          clear HR
          obtain ⟨k, T, rfl, hk1, hk2, hT, rfl, hB, hR⟩ := hrel
          have HR : Hid (R = unl s[0] [39, 34, 92] (s.data.toList.drop k) T k) := hR
          clear hR
          have hsz := hB.size
          have hk0 : (0 : Int) ≤ (k : Int) := by omega
          by_cases hlt : k < s.size
          · have hd : decide ((k : Int) < (s.size : Int)) = true := by simp; omega
            have hd' : decide (k < s.size) = true := by simp; omega
            have hlt' : (k : Int) < (s.size : Int) := by omega
            by_cases hqk : s[k].toNat = s[0].toNat
            · have eR : R = some (T, k + 1) := HR.out.trans (unl_stop _ s s[0] k T hlt (toNat_eq hqk))
              have hne : ((s[k].toNat : Int) != (s[0].toNat : Int)) = false := by simp; omega
              have hkk : decide (s.size ≤ k) = false := by simp; omega
              have HE : Hid (R = some (T, k + 1)) := eR
              clear HR eR hqk
              go_wp2_with fail
              go_quiet (fail)
              go_wp2_with fail
              go_ret3
              exact ⟨ret_three (by rw [HE.out]; rfl) (by rw [HE.out]; show (k : Int) + 1 = ((k + 1 : Nat) : Int); omega) (by rw [HE.out]; rfl), hB.trans (Go.Joins.below_draws _ _ _)⟩
            · have hne2 : ((s[k].toNat : Int) != (s[0].toNat : Int)) = true := by simp; omega
              have hneq : s[k] ≠ s[0] := fun e => hqk (by rw [e])
              have hP1 := (signAt_lt [39, 34, 92] (s.data.toList.drop k)).1
              have hP2 := (signAt_lt [39, 34, 92] (s.data.toList.drop k)).2
              rw [List.length_drop, llen] at hP2
              by_cases hz : (signAt [39, 34, 92] (s.data.toList.drop k)).2 = 0
              · have HE : Hid (R = none) := HR.out.trans (unl_none _ s s[0] k T hlt hneq hz)
                clear HR hneq
                generalize hP : signAt [39, 34, 92] (s.data.toList.drop k) = P at *
                have HP : Hid (signAt [39, 34, 92] (s.data.toList.drop k) = P) := hP
                have hx3 : ((P.2 : Int) == 0) = true := by simp; omega
                clear hP hqk hz
                go_wp2_with fail
                go_quiet (fail)
                go_wp2_with fail
                refine (said_any (s.extract k s.size) ⟨#[92, 39, 34]⟩ _ (by unfold maxLen; have := cut_size s k; omega) gd_perm_lt).mono ?_
                rintro e w1 ⟨rfl, hb⟩
                rw [cut_list s k, show (⟨#[92, 39, 34]⟩ : ByteArray).data.toList = [92, 39, 34] from rfl, signAt_perm, HP.out]
                have hB2 := b_call (hB.trans (Go.Joins.below_draws _ _ _)) hb
                clear hb hB
                go_wp2_with fail
                go_ret3
                exact ⟨by rw [HE.out] <;> rfl, hB2⟩
              · have HE : Hid (R = _) := HR.out.trans (unl_next _ s s[0] k T hlt hneq hz)
                clear HR hneq
                generalize hP : signAt [39, 34, 92] (s.data.toList.drop k) = P at *
                have HP : Hid (signAt [39, 34, 92] (s.data.toList.drop k) = P) := hP
                have hx3 : ((P.2 : Int) == 0) = false := by simp; omega
                clear hP hqk
                go_wp2_with fail
                go_quiet (fail)
                go_wp2_with fail
                refine (said_any (s.extract k s.size) ⟨#[92, 39, 34]⟩ _ (by unfold maxLen; have := cut_size s k; omega) gd_perm_lt).mono ?_
                rintro e w2 ⟨rfl, hb⟩
                rw [cut_list s k, show (⟨#[92, 39, 34]⟩ : ByteArray).data.toList = [92, 39, 34] from rfl, signAt_perm, HP.out]
                have hB2 := b_call (hB.trans (Go.Joins.below_draws _ _ _)) hb
                have hconv := conv_num P.1 hP1 w2
                have hsz2 := hB2.size
                clear hb hB
                go_wp2_with fail
                rw [cat_list]
                exact ⟨⟨k + P.2, T ++ [UInt8.ofNat P.1], by go_num, by omega, by omega, by rw [List.length_append, List.length_singleton]; omega, rfl, hB2.alloc hsz2 _, HE.out⟩, by simp [intOf]; omega⟩
          · have HE : Hid (R = none) := HR.out.trans (unl_over _ s s[0] k T (by omega))
            have hd : decide ((k : Int) < (s.size : Int)) = false := by simp; omega
            have hd' : decide (k < s.size) = false := by simp; omega
            have hkk : decide (s.size ≤ k) = true := by simp; omega
            clear HR
            go_wp2_with fail
            go_quiet (fail)
            go_wp2_with fail
            go_ret3
            exact ⟨by rw [HE.out] <;> rfl, hB.trans (Go.Joins.below_draws _ _ _)⟩
    · rw [if_neg hq] at e1
      subst e1
      have x1 : ((s[0].toNat : Int) != 39) = true := by simp; omega
      have x2 : ((s[0].toNat : Int) != 34) = true := by simp; omega
      clear hq
      go_enter Tryz.func26, Tryz.ntmps26
      go_wp2_with fail
      go_ret3
      exact ⟨rfl, Below.refl _ _⟩
end Go.Proofs.YtbeohmcmphebhaaGreatDoor
