import Derived.Test.YtbeohmcmphebhaaDoorXUMember
import Derived.Test.YtbeohmcmphebhaaDoorXUOps
namespace Go.Proofs.YtbeohmcmphebhaaDoor
open Go.RowKit
attribute [local go_sem] setCell_drewN alloc_drewN
theorem pre_any (D : List UInt8) (c : UInt8) (hc : c ≠ 0) : Lib.hasPrefix D [c] = decide (D.headD 0 = c) := by
  cases D with
  | nil => simp [Lib.hasPrefix]; exact fun h => hc h.symm
  | cons a r =>
    rw [Bool.eq_iff_iff]
    simp [Lib.hasPrefix]
    exact eq_comm
theorem trim_yes (D : List UInt8) (c : UInt8) (h : Lib.hasPrefix D [c] = true) : Lib.trimPrefix D [c] = D.drop 1 := by
  unfold Lib.trimPrefix; rw [if_pos h]; rfl
theorem trim_no (D : List UInt8) (c : UInt8) (h : Lib.hasPrefix D [c] = false) : Lib.trimPrefix D [c] = D := by
  unfold Lib.trimPrefix; rw [if_neg (by simp [h])]
theorem uc_none (l : List UInt8) (h : l.headD 0 ≠ 91) : unclass l = none := by unfold unclass; rw [if_neg h]
theorem wd0 (k : Nat) : wd 0#256 k = 0 := wd_zeroU k
/-- The words of a set, as cells. -/
def sw (S : BitVec 256) : Array Value := #[.int .u64 (wd S 0), .int .u64 (wd S 1), .int .u64 (wd S 2), .int .u64 (wd S 3)]
set_option maxRecDepth 20000 in
set_option maxHeartbeats 1000000 in
theorem unclass_no (s : ByteArray) (w : World) (h : s.data.toList.headD 0 ≠ 91) :
    Calls Tryd.prog 91 #[.string s] w fun e w' => e = .returned (.tuple #[.agg #[.int .u64 0, .int .u64 0, .int .u64 0, .int .u64 0], .int .i64 0, .int .i64 4]) ∧ Below w.heap.size w w' := by
  have hp := pre_any s.data.toList 91 (by decide)
  rw [decide_eq_false h] at hp
  have H1 : Hid (Lib.hasPrefix s.data.toList [91] = false) := hp
  clear hp h
  go_enter Tryd.func91, Tryd.ntmps91
  go_wp2_with fail
  refine (Tryd.strings_CutPrefix s ⟨#[91]⟩ _).mono ?_
  rintro e w1 ⟨rfl, rfl⟩
  rw [show Lib.hasPrefix s.data.toList (⟨#[91]⟩ : ByteArray).data.toList = false from H1.out]
  generalize Lib.trimPrefix s.data.toList (⟨#[91]⟩ : ByteArray).data.toList = t
  go_wp2_with fail
  exact bodyPost_ret (v := .tuple #[.agg #[.int .u64 0, .int .u64 0, .int .u64 0, .int .u64 0], .int .i64 0, .int .i64 4]) (by simp [results, Tryd.results91, go_sem]) rfl ⟨rfl, (Below.refl _ _).alloc (Nat.le_refl _) _⟩
def strLen : Value → Nat | .string s => s.size | _ => 0
theorem ba_list (l : List UInt8) : (⟨l.toArray⟩ : ByteArray).data.toList = l := by simp
theorem within_len (l : List UInt8) : (within l).length ≤ l.length := by unfold within; split <;> simp <;> omega
theorem others_eq (l : List UInt8) : Lib.hasPrefix (l.drop 1) [94] = others l := pre_any _ 94 (by decide)
theorem within_eq (l : List UInt8) : Lib.trimPrefix (l.drop 1) [94] = within l := by
  have h := others_eq l
  unfold others at h
  unfold within
  by_cases e : (l.drop 1).headD 0 = 94
  · rw [decide_eq_true e] at h; rw [trim_yes _ _ h, if_pos e, List.drop_drop]
  · rw [decide_eq_false e] at h; rw [trim_no _ _ h, if_neg e]
theorem uc_of_none (l : List UInt8) (h : l.headD 0 = 91) (hX : ucl (within l) 0#256 = none) : unclass l = none := by unfold unclass; rw [if_pos h, hX]; rfl
theorem uc_of_some (l : List UInt8) (h : l.headD 0 = 91) (acc : BitVec 256) (m : Nat) (hX : ucl (within l) 0#256 = some (acc, m)) : unclass l = some (if others l then ~~~acc else acc, l.length - m + 1) := by unfold unclass; rw [if_pos h, hX]; rfl
theorem ucl_stop (t : ByteArray) (acc : BitVec 256) (h : 0 < t.size) (h93 : t[0].toNat = 93) : ucl t.data.toList acc = some (acc, t.size) := by
  obtain ⟨⟨l⟩⟩ := t
  match l, h with
  | [], h => simp [ByteArray.size] at h
  | a :: r, h =>
    have : a = 93 := toNat_eq h93
    subst this
    rw [ucl_end]
    simp [ByteArray.size]
theorem ucl_miss (t : ByteArray) (acc : BitVec 256) (h : 0 < t.size) (h93 : t[0].toNat ≠ 93) (hb : (memberAt t.data.toList).2.2 = 0 ∨ (memberAt t.data.toList).2.1 < (memberAt t.data.toList).1) : ucl t.data.toList acc = none := by
  obtain ⟨⟨l⟩⟩ := t
  match l, h with
  | [], h => simp [ByteArray.size] at h
  | a :: r, h => exact ucl_bad a r acc (fun e => h93 (by rw [show (⟨⟨a :: r⟩⟩ : ByteArray)[0] = a from rfl, e]; rfl)) hb
theorem ucl_next (t : ByteArray) (acc : BitVec 256) (h : 0 < t.size) (h93 : t[0].toNat ≠ 93) (hb : ¬ ((memberAt t.data.toList).2.2 = 0 ∨ (memberAt t.data.toList).2.1 < (memberAt t.data.toList).1)) :
    ucl t.data.toList acc = ucl (t.data.toList.drop (memberAt t.data.toList).2.2) (acc ||| rng (memberAt t.data.toList).1 (memberAt t.data.toList).2.1) := by
  obtain ⟨⟨l⟩⟩ := t
  match l, h with
  | [], h => simp [ByteArray.size] at h
  | a :: r, h => exact ucl_on a r acc (fun e => h93 (by rw [show (⟨⟨a :: r⟩⟩ : ByteArray)[0] = a from rfl, e]; rfl)) hb
theorem ext_size (s : ByteArray) (k : Nat) : (s.extract k s.size).size = s.size - k := by simp
theorem ret_k {S S' : BitVec 256} {n n' e e' : Int} (h1 : S = S') (h2 : n = n') (h3 : e = e') : Ending.returned (.tuple #[.agg #[.int .u64 (wd S 0), .int .u64 (wd S 1), .int .u64 (wd S 2), .int .u64 (wd S 3)], .int .i64 n, .int .i64 e]) = .returned (.tuple #[.agg #[.int .u64 (wd S' 0), .int .u64 (wd S' 1), .int .u64 (wd S' 2), .int .u64 (wd S' 3)], .int .i64 n', .int .i64 e']) := by rw [h1, h2, h3]
set_option maxRecDepth 20000 in
set_option maxHeartbeats 1000000 in
theorem unclass_yes (s : ByteArray) (w : World) (hs : s.size ≤ maxLen) (h91 : s.data.toList.headD 0 = 91) (R : Option (BitVec 256 × Nat)) (hR : unclass s.data.toList = R) :
    Calls Tryd.prog 91 #[.string s] w fun e w' => e = .returned (.tuple #[.agg #[.int .u64 (wd (kS R) 0), .int .u64 (wd (kS R) 1), .int .u64 (wd (kS R) 2), .int .u64 (wd (kS R) 3)], .int .i64 (kN R), .int .i64 (kE R)]) ∧ Below w.heap.size w w' := by
  have hs' := hs
  unfold maxLen at hs
  have hp := pre_any s.data.toList 91 (by decide)
  rw [decide_eq_true h91] at hp
  have htr := trim_yes _ _ hp
  have hn := uc_of_none s.data.toList h91
  have hsome := uc_of_some s.data.toList h91
  rw [hR, llen] at hsome
  rw [hR] at hn
  have hot := others_eq s.data.toList
  have hwi := within_eq s.data.toList
  have hwl := within_len s.data.toList
  rw [llen] at hwl
  have H1 : Hid (Lib.hasPrefix s.data.toList [91] = true) := hp
  have H2 : Hid (Lib.trimPrefix s.data.toList [91] = s.data.toList.drop 1) := htr
  have H3 : Hid (Lib.hasPrefix (s.data.toList.drop 1) [94] = others s.data.toList) := hot
  have H4 : Hid (Lib.trimPrefix (s.data.toList.drop 1) [94] = within s.data.toList) := hwi
  clear hp htr hot hwi hR h91
  go_enter Tryd.func91, Tryd.ntmps91
  go_wp2_with fail
  refine (Tryd.strings_CutPrefix s ⟨#[91]⟩ _).mono ?_
  rintro e w1 ⟨rfl, rfl⟩
  rw [show Lib.hasPrefix s.data.toList (⟨#[91]⟩ : ByteArray).data.toList = true from H1.out, show Lib.trimPrefix s.data.toList (⟨#[91]⟩ : ByteArray).data.toList = s.data.toList.drop 1 from H2.out]
  have HT1 : Hid ((⟨(s.data.toList.drop 1).toArray⟩ : ByteArray).data.toList = s.data.toList.drop 1) := ba_list _
  generalize (⟨(s.data.toList.drop 1).toArray⟩ : ByteArray) = t1 at *
  go_wp2_with fail
  refine (Tryd.strings_CutPrefix t1 ⟨#[94]⟩ _).mono ?_
  rintro e w1 ⟨rfl, rfl⟩
  rw [HT1.out, show Lib.hasPrefix (s.data.toList.drop 1) (⟨#[94]⟩ : ByteArray).data.toList = others s.data.toList from H3.out, show Lib.trimPrefix (s.data.toList.drop 1) (⟨#[94]⟩ : ByteArray).data.toList = within s.data.toList from H4.out]
  have hT0 : (⟨(within s.data.toList).toArray⟩ : ByteArray).data.toList = within s.data.toList := ba_list _
  have hsz0 : (⟨(within s.data.toList).toArray⟩ : ByteArray).size ≤ s.size := by rw [mk_size]; exact hwl
  rw [← hT0] at hn hsome
  generalize (⟨(within s.data.toList).toArray⟩ : ByteArray) = t0 at *
  generalize hX : ucl t0.data.toList 0#256 = X at *
  have HN : Hid (X = none → R = none) := hn
  have HS : Hid (∀ acc m, X = some (acc, m) → R = some (if others s.data.toList then ~~~acc else acc, s.size - m + 1)) := hsome
  have HX : Hid (ucl t0.data.toList 0#256 = X) := hX
  generalize others s.data.toList = oth at *
  clear hn hsome hX hT0 HT1 H1 H2 H3 H4 hwl
  go_wp2_with fail
  go_loopw [7, 10, 11, 12] (fun v _ _ _ wx => ∃ (t : ByteArray) (acc : BitVec 256), v = .string t ∧ t.size ≤ s.size ∧ Hid (ucl t.data.toList acc = X) ∧ Below w.heap.size w wx ∧ Lies wx w.heap.size #[.int .u64 0, .int .u64 0, .int .u64 0, .int .u64 0] ∧ Lies wx (w.heap.size + 1) #[.int .u64 (wd acc 0), .int .u64 (wd acc 1), .int .u64 (wd acc 2), .int .u64 (wd acc 3)]) (fun v _ _ _ _ => strLen v)
  case atStart =>
    refine ⟨t0, 0#256, rfl, hsz0, HX, ((Below.refl _ _).alloc (Nat.le_refl _) _).alloc (by simp) _, (Lies.new w _).alloc _, ?_⟩
    simp only [wd_zeroU]
    have := Lies.new (w.alloc (.cells #[.int .u64 0, .int .u64 0, .int .u64 0, .int .u64 0] 24)) #[.int .u64 0, .int .u64 0, .int .u64 0, .int .u64 0]
    simpa using this
  case round =>
    clear hsz0 HX
    obtain ⟨t, acc, rfl, hts, HX, hB, hN, hM⟩ := hrel
    have hltN := hN.lt
    have hltM := hM.lt
    have hcN := hN.cell
    have hfN := hN.frozen
    by_cases h0 : t.size = 0
    · obtain rfl := empty_of t h0
      have HR : Hid (R = none) := HN.out (HX.out.symm.trans (ucl_nil acc))
      clear HN HS HX h0
      go_wp2_with fail
      exact bodyPost_ret (v := .tuple #[.agg #[.int .u64 0, .int .u64 0, .int .u64 0, .int .u64 0], .int .i64 0, .int .i64 4]) (by simp [results, Tryd.results91, go_sem, hcN]) rfl ⟨by rw [HR.out]; simp only [kS, kN, kE, wd_zeroU], (((hB.setCell (by simp) _).setCell (by simp) _).setCell (by simp) _).setCell (by simp) _⟩
    · have he := nonempty t h0
      have h1 : 0 < t.size := by omega
      have h1' : (0 : Int) < t.size := by omega
      by_cases h93 : t[0].toNat = 93
      · have HR : Hid (R = _) := HS.out acc t.size (HX.out.symm.trans (ucl_stop t acc h1 h93))
        have hx : ((t[0].toNat : Int) != 93) = false := by simp; omega
        clear HN HS HX h93
        have hcM := hM.cell
        have hfM := hM.frozen
        cases oth
        · go_wp2_with fail
          exact bodyPost_ret (v := .tuple #[.agg #[.int .u64 (wd acc 0), .int .u64 (wd acc 1), .int .u64 (wd acc 2), .int .u64 (wd acc 3)], .int .i64 ((s.size : Int) - (t.size : Int) + 1), .int .i64 0]) (by simp [results, Tryd.results91, go_sem, hcN]) rfl ⟨ret_k (by rw [HR.out]; rfl) (by rw [HR.out]; show _ = ((s.size - t.size + 1 : Nat) : Int); omega) (by rw [HR.out]; rfl), (((hB.setCell (by simp) _).setCell (by simp) _).setCell (by simp) _).setCell (by simp) _⟩
        · go_wp2_with fail
          refine (not_any acc _).mono ?_
          rintro e w2 ⟨rfl, hb2⟩
          have hB2 := b_call hB hb2
          have hN2 := hN.below hb2 hltN
          have hM2 := hM.below hb2 hltM
          have hltN2 := hN2.lt
          have hltM2 := hM2.lt
          have hcN2 := hN2.cell
          have hfN2 := hN2.frozen
          have hcM2 := hM2.cell
          have hfM2 := hM2.frozen
          clear hcN hfN hcM hfM hB hN hM hb2 hltN hltM
          go_wp2_with fail
          exact bodyPost_ret (v := .tuple #[.agg #[.int .u64 (wd (~~~acc) 0), .int .u64 (wd (~~~acc) 1), .int .u64 (wd (~~~acc) 2), .int .u64 (wd (~~~acc) 3)], .int .i64 ((s.size : Int) - (t.size : Int) + 1), .int .i64 0]) (by simp [results, Tryd.results91, go_sem, hcN2]) rfl ⟨ret_k (by rw [HR.out]; rfl) (by rw [HR.out]; show _ = ((s.size - t.size + 1 : Nat) : Int); omega) (by rw [HR.out]; rfl), (((((((hB2.setCell (by simp) _).setCell (by simp) _).setCell (by simp) _).setCell (by simp) _).setCell (by simp) _).setCell (by simp) _).setCell (by simp) _).setCell (by simp) _⟩
      · have hx : ((t[0].toNat : Int) != 93) = true := by simp; omega
        have hlt := memberAt_lt t.data.toList
        rw [llen] at hlt
        by_cases hb : (memberAt t.data.toList).2.2 = 0 ∨ (memberAt t.data.toList).2.1 < (memberAt t.data.toList).1
        · have HR : Hid (R = none) := HN.out (HX.out.symm.trans (ucl_miss t acc h1 h93 hb))
          have hor : (((memberAt t.data.toList).2.2 : Int) == 0) = true ∨ ((((memberAt t.data.toList).2.2 : Int) == 0) = false ∧ decide ((memberAt t.data.toList).2.1 < (memberAt t.data.toList).1) = true) := by
            by_cases e : (memberAt t.data.toList).2.2 = 0
            · left; simp; omega
            · right; simp; omega
          clear HN HS HX h93 hb
          generalize hMM : memberAt t.data.toList = M at *
          have HM : Hid (memberAt t.data.toList = M) := hMM
          clear hMM
          rcases hor with hy | ⟨hy, hz⟩
          all_goals
            go_wp2_with fail
            refine (memberAt_any t _ (by unfold maxLen; omega)).mono ?_
            rintro e w2 ⟨rfl, n1, rfl⟩
            rw [HM.out]
            go_wp2_with fail
            exact bodyPost_ret (v := .tuple #[.agg #[.int .u64 0, .int .u64 0, .int .u64 0, .int .u64 0], .int .i64 0, .int .i64 4]) (by simp [results, Tryd.results91, go_sem, hcN]) rfl ⟨by rw [HR.out]; simp only [kS, kN, kE, wd_zeroU], ((((hB.setCell (by simp) _).setCell (by simp) _).setCell (by simp) _).setCell (by simp) _).trans (Go.Joins.below_draws _ _ _)⟩
        · have HE := (ucl_next t acc h1 h93 hb).symm.trans HX.out
          have hy : (((memberAt t.data.toList).2.2 : Int) == 0) = false := by simp; omega
          have hz : decide ((memberAt t.data.toList).2.1 < (memberAt t.data.toList).1) = false := by simp; omega
          have hn0 : 0 < (memberAt t.data.toList).2.2 := by omega
          clear h93 hb HX
          generalize hMM : memberAt t.data.toList = M at *
          have HM : Hid (memberAt t.data.toList = M) := hMM
          have HX2 : Hid (ucl (t.data.toList.drop M.2.2) (acc ||| rng M.1 M.2.1) = X) := HE
          clear hMM HE
          have hcM := hM.cell
          have hfM := hM.frozen
          have hM3 : (M.2.2 : Int) ≤ (t.size : Int) := by omega
          have hM1 : (M.1 : Int) < 256 := by omega
          have hM2 : (M.2.1 : Int) < 256 := by omega
          go_wp2_with fail
          refine (memberAt_any t _ (by unfold maxLen; omega)).mono ?_
          rintro e w2 ⟨rfl, n1, rfl⟩
          rw [HM.out]
          go_wp2_with fail
          obtain ⟨w2, hw2⟩ : ∃ w2, w2 = wr.drewN n1 := ⟨_, rfl⟩
          rw [← hw2]
          have hB2 : Below w.heap.size w w2 := by rw [hw2]; exact hB.trans (Go.Joins.below_draws _ _ _)
          have hN2 : Lies w2 w.heap.size #[.int .u64 0, .int .u64 0, .int .u64 0, .int .u64 0] := by rw [hw2]; exact hN.drewN n1
          have hM2 : Lies w2 (w.heap.size + 1) #[.int .u64 (wd acc 0), .int .u64 (wd acc 1), .int .u64 (wd acc 2), .int .u64 (wd acc 3)] := by rw [hw2]; exact hM.drewN n1
          clear hw2 hB hN hM hcN hfN hcM hfM hltN hltM
          have hltN := hN2.lt
          have hltM := hM2.lt
          have hcM := hM2.cell
          have hfM := hM2.frozen
          go_region_with (first
            | (go_at_call 81; refine (range_any _ _ _).mono ?_; rintro e w3 ⟨rfl, hb3⟩; have hM3 := hM2.drew.below hb3 hltM; have hN3 := hN2.drew.below hb3 hltN; have hcM3 := hM3.cell; have hz3 := hM3.lt)
            | (go_at_call 104; refine (join_any acc _ _).mono ?_; rintro e w4 ⟨rfl, hb4⟩; have hM4 := hM3.below hb4 hz3; have hN4 := hN3.below hb4 hN3.lt; have hcM4 := hM4.cell; have hfM4 := hM4.frozen; have hz4 := hM4.lt))
          all_goals
            rw [wrapSmall (M.1 : Int) (by omega) (by omega), wrapSmall (M.2.1 : Int) (by omega) (by omega)]
            have hB4 := b_call (b_call hB2.drew hb3) hb4
            obtain ⟨A2, hA2⟩ : ∃ A2, A2 = acc ||| rng M.1 M.2.1 := ⟨_, rfl⟩
            rw [← hA2]
            have HX3 : Hid (ucl (t.data.toList.drop M.2.2) A2 = X) := by rw [hA2]; exact HX2.out
            clear hA2 HX2
            have hM5 : Lies ((((w4.setCell ⟨w.heap.size + 1, 0, none⟩ (.int .u64 (wd A2 0))).setCell ⟨w.heap.size + 1, 1, none⟩ (.int .u64 (wd A2 1))).setCell ⟨w.heap.size + 1, 2, none⟩ (.int .u64 (wd A2 2))).setCell ⟨w.heap.size + 1, 3, none⟩ (.int .u64 (wd A2 3))) (w.heap.size + 1) #[.int .u64 (wd A2 0), .int .u64 (wd A2 1), .int .u64 (wd A2 2), .int .u64 (wd A2 3)] :=
              (((hM4.set 0 _).set 1 _).set 2 _).set 3 _
            have hN5 := (((hN4.other (M := w.heap.size + 1) 0 (.int .u64 (wd A2 0)) (by omega)).other (M := w.heap.size + 1) 1 (.int .u64 (wd A2 1)) (by omega)).other (M := w.heap.size + 1) 2 (.int .u64 (wd A2 2)) (by omega)).other (M := w.heap.size + 1) 3 (.int .u64 (wd A2 3)) (by omega)
            have hB5 := (((hB4.setCell (p := ⟨w.heap.size + 1, 0, none⟩) (by simp) (.int .u64 (wd A2 0))).setCell (p := ⟨w.heap.size + 1, 1, none⟩) (by simp) (.int .u64 (wd A2 1))).setCell (p := ⟨w.heap.size + 1, 2, none⟩) (by simp) (.int .u64 (wd A2 2))).setCell (p := ⟨w.heap.size + 1, 3, none⟩) (by simp) (.int .u64 (wd A2 3))
            generalize (((w4.setCell ⟨w.heap.size + 1, 0, none⟩ (.int .u64 (wd A2 0))).setCell ⟨w.heap.size + 1, 1, none⟩ (.int .u64 (wd A2 1))).setCell ⟨w.heap.size + 1, 2, none⟩ (.int .u64 (wd A2 2))).setCell ⟨w.heap.size + 1, 3, none⟩ (.int .u64 (wd A2 3)) = w5 at *
            clear hB4 hM4 hN4 hcM4 hfM4 hb4 hb3 hM3 hN3 hcM3 hcM hfM hM2 hN2 hB2
            go_wp2_with fail
            exact ⟨⟨t.extract M.2.2 t.size, A2, rfl, by rw [ext_size]; omega, by unfold Hid; rw [cut_list]; exact HX3.out, hB5, hN5, hM5⟩, by simp only [strLen]; rw [ext_size]; omega⟩
theorem unclass_any (s : ByteArray) (w : World) (hs : s.size ≤ maxLen) :
    Calls Tryd.prog 91 #[.string s] w fun e w' => e = .returned (.tuple #[.agg #[.int .u64 (wd (kS (unclass s.data.toList)) 0), .int .u64 (wd (kS (unclass s.data.toList)) 1), .int .u64 (wd (kS (unclass s.data.toList)) 2), .int .u64 (wd (kS (unclass s.data.toList)) 3)], .int .i64 (kN (unclass s.data.toList)), .int .i64 (kE (unclass s.data.toList))]) ∧ Below w.heap.size w w' := by
  by_cases h : s.data.toList.headD 0 = 91
  · exact unclass_yes s w hs h _ rfl
  · refine (unclass_no s w h).mono ?_
    rintro e w' ⟨rfl, hb⟩
    refine ⟨?_, hb⟩
    rw [uc_none _ h]
    simp only [kS, kN, kE, wd_zeroU]
end Go.Proofs.YtbeohmcmphebhaaDoor
