import Derived.Test.YtomeocofnbnegaaDoorWhere
import Derived.Deep.QuietTactic
import Derived.BigQuiet
namespace Go.Proofs.YtomeocofnbnegaaDoor
open Go.RowKit
/-- The first line end of a text that has one. -/
theorem first_nl (Q : List UInt8) (h : 0 < List.count 10 Q) : ∃ Q1 Q2, Q = Q1 ++ 10 :: Q2 ∧ (∀ b ∈ Q1, b ≠ 10) := by
  induction Q with
  | nil => simp at h
  | cons b q ih =>
    by_cases e : b = 10
    · subst e; exact ⟨[], q, rfl, by simp⟩
    · rw [List.count_cons_of_ne (by simpa using e)] at h
      obtain ⟨Q1, Q2, h1, h2⟩ := ih h
      refine ⟨b :: Q1, Q2, by rw [h1]; rfl, ?_⟩
      intro c hc
      rcases List.mem_cons.1 hc with rfl | hc
      · exact e
      · exact h2 c hc
theorem indexByte_at (Q1 r : List UInt8) (h : ∀ b ∈ Q1, b ≠ 10) : Lib.indexByte (Q1 ++ 10 :: r) 10 = Q1.length := by
  induction Q1 with
  | nil => rfl
  | cons b q ih =>
    have hb : (b == 10) = false := by simpa using h b (by simp)
    have h1 := ih (fun c hc => h c (by simp [hc]))
    show (if b == 10 then (0 : Int) else if Lib.indexByte (q ++ 10 :: r) 10 == -1 then -1 else Lib.indexByte (q ++ 10 :: r) 10 + 1) = _
    rw [hb, h1]
    have : (((q.length : Nat) : Int) == -1) = false := by rw [beq_eq_false_iff_ne]; omega
    rw [this]
    simp
theorem indexByte_no (q : List UInt8) (h : ∀ b ∈ q, b ≠ 10) : Lib.indexByte q 10 = -1 := by
  induction q with
  | nil => rfl
  | cons b q ih =>
    have hb : (b == 10) = false := by simpa using h b (by simp)
    have h1 := ih (fun c hc => h c (by simp [hc]))
    show (if b == 10 then (0 : Int) else if Lib.indexByte q 10 == -1 then -1 else Lib.indexByte q 10 + 1) = _
    rw [hb, h1]
    rfl
theorem count_no (q : List UInt8) (h : ∀ b ∈ q, b ≠ 10) : List.count 10 q = 0 := List.count_eq_zero.2 fun hm => h 10 hm rfl
/-- What the search for a line's beginning keeps. -/
structure Bol (t A X : List UInt8) (c i p : Nat) (Q : List UInt8) : Prop where
  eq : t.drop p = Q ++ X
  cnt : List.count 10 Q = c - i
  fin : Q = [] ∨ ∃ Q', Q = Q' ++ [10]
  len : p + Q.length = A.length
theorem Bol.next {t A X : List UInt8} {c i p : Nat} {Q : List UInt8} (B : Bol t A X c i p Q) (hi : i < c) : ∃ j : Nat, Lib.indexByte (t.drop p) 10 = j ∧ p + (j + 1) ≤ A.length ∧ ∃ Q2, Bol t A X c (i + 1) (p + (j + 1)) Q2 := by
  obtain ⟨Q1, Q2, h1, h2⟩ := first_nl Q (by rw [B.cnt]; omega)
  have hlen : p + (Q1.length + (Q2.length + 1)) = A.length := by have := B.len; rw [h1] at this; simpa using this
  refine ⟨Q1.length, ?_, by omega, Q2, ?_, ?_, ?_, by omega⟩
  · rw [B.eq, h1, List.append_assoc]; exact indexByte_at Q1 _ h2
  · rw [← List.drop_drop, B.eq, h1, List.append_assoc, List.drop_append, List.drop_eq_nil_of_le (by omega), show Q1.length + 1 - Q1.length = 1 from by omega]
    rfl
  · have := B.cnt
    rw [h1, List.count_append, count_no Q1 h2] at this
    simp at this
    omega
  · rcases B.fin with e | ⟨Q', e⟩
    · rw [e] at h1; simp at h1
    · rw [e] at h1
      rcases List.eq_nil_or_concat Q2 with h3 | ⟨q, x, h3⟩
      · exact .inl h3
      · right
        rw [List.concat_eq_append] at h3
        rw [h3] at h1
        have h4 := congrArg List.getLast? h1
        rw [List.getLast?_concat] at h4
        have h5 : (Q1 ++ 10 :: (q ++ [x])).getLast? = some x := by
          rw [show Q1 ++ 10 :: (q ++ [x]) = (Q1 ++ 10 :: q) ++ [x] from by simp, List.getLast?_concat]
        rw [h5] at h4
        simp at h4
        exact ⟨q, by rw [h3, ← h4]⟩
set_option maxRecDepth 20000 in
set_option maxHeartbeats 1000000 in
theorem bol_ok (s : ByteArray) (A X : List UInt8) (c : Nat) (w : World) (hs : (s.size : Int) ≤ 1048576) (HA : Hid (s.data.toList = A ++ X)) (HC : Hid (List.count 10 A = c)) (HF : Hid (A = [] ∨ ∃ A', A = A' ++ [10])) :
    Calls Tryd.prog 14 #[.string s, .int .i64 (1 + (c : Int))] w fun e w' => e = .returned (.tuple #[.int .i64 (A.length : Int), .bool true]) ∧ w' = w := by
  have HL : Hid (s.data.toList.length = s.size) := size_list s
  have hal : A.length ≤ s.size := by have := congrArg List.length HA.out; rw [List.length_append, HL.out] at this; omega
  have hcl : (c : Int) ≤ 1048576 := by have h1 : List.count 10 A ≤ A.length := List.count_le_length; rw [HC.out] at h1; omega
  go_enter Tryd.func14, Tryd.ntmps14
  go_wp2_with fail
  go_loopw [6, 7, 10] (fun b _ i wx => wx = w ∧ ∃ (j p : Nat) (Q : List UInt8), b = .int .i64 p ∧ i = .int .i64 j ∧ j ≤ c ∧ p ≤ s.size ∧ Hid (Bol s.data.toList A X c j p Q)) (fun _ _ i _ => c - (intOf i).toNat)
  case atStart => exact ⟨rfl, 0, 0, A, rfl, rfl, by omega, by omega, ⟨HA.out, HC.out, HF.out, by omega⟩⟩
  case round =>
    obtain ⟨rfl, j, p, Q, rfl, rfl, hj, hp, HB⟩ := hrel
    by_cases hjc : (j : Int) < (c : Int)
    · obtain ⟨q, h1, h2, Q2, h3⟩ := HB.out.next (by omega)
      have H1 : Hid (Lib.indexByte (s.data.toList.drop p) 10 = q) := h1
      have H3 : Hid (Bol s.data.toList A X c (j + 1) (p + (q + 1)) Q2) := h3
      clear h1 h3
      go_wp2_with fail
      refine (Tryd.strings_Index_one (s.extract p s.size) 10 _).mono ?_
      rintro e w1 ⟨rfl, hw1⟩
      subst hw1
      rw [ext_list, H1.out]
      go_wp2_with fail
      exact ⟨⟨trivial, j + 1, p + (q + 1), Q2, by go_num, by go_num, by omega, by omega, H3⟩, by simp [intOf]; omega⟩
    · have hpa : p = A.length := by
        have hB := HB.out
        have h1 := hB.cnt
        have h2 := hB.len
        rcases hB.fin with e | ⟨Q', e⟩
        · rw [e] at h2; simpa using h2
        · rw [e, List.count_append] at h1
          simp at h1
          omega
      have HP : Hid (p = A.length) := hpa
      clear hpa
      go_wp2_with fail
      go_ret2
      exact ⟨by rw [← HP.out]; rfl, rfl⟩
/-- A text up to its first line end. -/
theorem cut_split (t : List UInt8) : ∃ L R, t = L ++ R ∧ (∀ b ∈ L, b ≠ 10) ∧ ((R = [] ∧ Lib.indexByte t 10 = -1) ∨ (∃ r, R = 10 :: r) ∧ Lib.indexByte t 10 = (L.length : Int)) := by
  rcases Nat.eq_zero_or_pos (List.count 10 t) with h | h
  · have hn : ∀ b ∈ t, b ≠ 10 := fun b hb e => by
      rw [e] at hb
      exact List.count_eq_zero.1 h hb
    exact ⟨t, [], by simp, hn, .inl ⟨rfl, indexByte_no t hn⟩⟩
  · obtain ⟨Q1, Q2, h1, h2⟩ := first_nl t h
    exact ⟨Q1, 10 :: Q2, h1, h2, .inr ⟨⟨Q2, rfl⟩, by rw [h1]; exact indexByte_at Q1 Q2 h2⟩⟩
theorem ba_eq {a b : ByteArray} (h : a.data.toList = b.data.toList) : a = b := by
  obtain ⟨⟨a⟩⟩ := a
  obtain ⟨⟨b⟩⟩ := b
  have : a = b := h
  rw [this]
set_option maxRecDepth 20000 in
set_option maxHeartbeats 1000000 in
theorem cut_any (s : ByteArray) (w : World) (hs : (s.size : Int) ≤ 1048576) :
    Calls Tryd.prog 15 #[.string s, .string ⟨#[10]⟩] w fun e w' => ∃ (L : ByteArray) (R : List UInt8) (v1 v2 : Value), s.data.toList = L.data.toList ++ R ∧ (∀ b ∈ L.data.toList, b ≠ 10) ∧ (R = [] ∨ ∃ r, R = 10 :: r) ∧ e = .returned (.tuple #[.string L, v1, v2]) ∧ Below w.heap.size w w' := by
  obtain ⟨L, R, h1, h2, h3⟩ := cut_split s.data.toList
  have HL : Hid (s.data.toList.length = s.size) := size_list s
  rcases h3 with ⟨h4, h5⟩ | ⟨h4, h5⟩
  · have H5 : Hid (Lib.indexByte s.data.toList 10 = -1) := h5
    have H1 : Hid (s.data.toList = L ++ R) := h1
    have H2 : Hid (∀ b ∈ L, b ≠ 10) := h2
    have H4 : Hid (R = []) := h4
    clear h5 h1 h2 h4
    go_enter Tryd.func15, Tryd.ntmps15
    go_wp2_with (first | (go_at_call 26; refine (Tryd.stringslite_Index_one s 10 _).mono ?_; rintro e w1 ⟨rfl, hw1⟩; subst hw1; rw [H5.out]) | go_in)
    go_ret3
    go_wp2_with fail
    go_ret3
    exact ⟨s, R, _, _, by rw [H4.out]; simp, by rw [H1.out, H4.out, List.append_nil]; exact H2.out, .inl H4.out, rfl, Below.refl _ _⟩
  · have hL : L.length < s.size := by
      obtain ⟨r, e⟩ := h4
      have := congrArg List.length h1
      rw [List.length_append, HL.out, e] at this
      simp at this
      omega
    have H5 : Hid (Lib.indexByte s.data.toList 10 = (L.length : Int)) := h5
    have H1 : Hid (s.data.toList = L ++ R) := h1
    have H2 : Hid (∀ b ∈ L, b ≠ 10) := h2
    have H4 : Hid (∃ r, R = 10 :: r) := h4
    clear h5 h1 h2 h4
    have hLi : (L.length : Int) < (s.size : Int) := by omega
    go_enter Tryd.func15, Tryd.ntmps15
    go_wp2_with (first | (go_at_call 26; refine (Tryd.stringslite_Index_one s 10 _).mono ?_; rintro e w1 ⟨rfl, hw1⟩; subst hw1; rw [H5.out]) | go_in)
    go_quiet (fail)
    go_wp2_with fail
    go_ret3
    go_wp2_with fail
    go_ret3
    have e1 : (s.extract 0 L.length).data.toList = L := by rw [take_list, H1.out, List.take_left]
    exact ⟨s.extract 0 L.length, R, _, _, by rw [e1]; exact H1.out, by rw [e1]; exact H2.out, .inr H4.out, rfl, below_drewN (Below.refl _ _) _⟩
theorem tail_le {H u L R : List UInt8} (hH : ∀ b ∈ H, b ≠ 10) (he : H ++ u = L ++ R) (hR : R = [] ∨ ∃ r, R = 10 :: r) : H.length ≤ L.length := by
  rcases hR with rfl | ⟨r, rfl⟩
  · have := congrArg List.length he
    simp at this
    omega
  · rcases Nat.lt_or_ge L.length H.length with h | h
    · exfalso
      have h1 : (H ++ u)[L.length]? = (L ++ 10 :: r)[L.length]? := by rw [he]
      rw [List.getElem?_append_left h, List.getElem?_append_right (Nat.le_refl _), Nat.sub_self] at h1
      have h2 : H[L.length]? = some 10 := by rw [h1]; rfl
      obtain ⟨h3, h4⟩ := List.getElem?_eq_some_iff.1 h2
      exact hH 10 (by rw [← h4]; exact List.getElem_mem h3) rfl
    · exact h
set_option maxRecDepth 20000 in
set_option maxHeartbeats 1000000 in
theorem back_ok (s : ByteArray) (h A H u : List UInt8) (k : Nat) (w : World) (hs : (s.size : Int) ≤ 1048576) (HE : Hid (s.data.toList = h ++ u)) (HT : Hid (Tail h A H)) (HR : Hid (Runs k (h ++ u) u)) (HP : Hid (Runs k h [])) :
    Calls Tryd.prog 7 #[.string s, .agg #[.int .i64 (1 + (List.count 10 h : Nat)), .int .i64 (1 + (nS H : Nat))]] w fun e w' => e = .returned (.tuple #[.int .i64 (h.length : Nat), .int .i64 0]) ∧ Below w.heap.size w w' := by
  have HL : Hid (s.data.toList.length = s.size) := size_list s
  have hlen := congrArg List.length HE.out
  rw [List.length_append, HL.out] at hlen
  have hcnt : List.count 10 A = List.count 10 h := by rw [HT.out.eq, List.count_append, count_no H HT.out.no]; rfl
  have hhl := congrArg List.length HT.out.eq
  rw [List.length_append] at hhl
  have hc1 : ((List.count 10 h : Nat) : Int) ≤ 1048576 := by have h1 : List.count 10 h ≤ h.length := List.count_le_length; omega
  have hn1 : ((nS H : Nat) : Int) ≤ 1048576 := by have h1 := nS_le H; omega
  have hal : A.length ≤ s.size := by omega
  have HAX : Hid (s.data.toList = A ++ (H ++ u)) := by unfold Hid; rw [HE.out, HT.out.eq, List.append_assoc]
  have HH : Hid (h.length = A.length + H.length ∧ s.size = h.length + u.length) := ⟨hhl, hlen⟩
  have HCN : Hid (List.count 10 A = List.count 10 h) := hcnt
  clear hlen hhl hcnt
  have g1 : decide (1 + ((List.count 10 h : Nat) : Int) < 1) = false := by simp; omega
  have g2 : decide (1 + ((nS H : Nat) : Int) < 1) = false := by simp; omega
  go_enter Tryd.func7, Tryd.ntmps7
  go_wp2_with fail
  refine (bol_ok s A (H ++ u) (List.count 10 h) _ hs HAX HCN HT.out.fin).mono ?_
  rintro e w1 ⟨rfl, hw1⟩
  subst hw1
  go_wp2_with fail
  refine (cut_any (s.extract A.length s.size) _ (by rw [ext_size]; omega)).mono ?_
  rintro e w2 ⟨L, R, v1, v2, hL1, hL2, hL3, rfl, hb2⟩
  rw [ext_list, HAX.out, List.drop_left] at hL1
  have hHL := tail_le HT.out.no hL1 hL3
  have HRL : Hid (Runs (nS H) L.data.toList (L.data.toList.drop H.length)) := Tail.inLine (HT.out.runs HR.out HP.out) hL1 hHL hL3
  have hLs : (L.size : Int) ≤ 1048576 := by
    have h1 := congrArg List.length hL1
    rw [List.length_append, List.length_append, size_list] at h1
    have := HH.out
    omega
  have HLL : Hid (L.size - (L.data.toList.drop H.length).length = H.length) := by
    unfold Hid
    rw [List.length_drop]
    rw [size_list] at hHL ⊢
    omega
  obtain ⟨hc, hf⟩ := bcell hb2
  have hy2 : w.heap.size < w2.heap.size := by have := hb2.size; simp at this; omega
  have hB2 : Below w.heap.size w w2 := ((Below.refl _ _).alloc (Nat.le_refl _) _).trans (hb2.mono (by simp))
  clear hL1 hL2 hL3 hHL hb2
  go_wp2_with fail
  rw [show (1 + ((nS H : Nat) : Int) - 1) = ((nS H : Nat) : Int) from by omega]
  refine (behind_yes L (nS H) _ _ (by omega) HRL).mono ?_
  rintro e w3 ⟨rfl, hb3⟩
  rw [HLL.out]
  have hHl : ((A.length : Nat) : Int) + ((H.length : Nat) : Int) ≤ 1048576 := by have := HH.out; omega
  have hB3 := hB2.trans (hb3.mono (by omega))
  clear hc hf hB2 hb3
  go_wp2_with fail
  go_ret2
  refine ⟨?_, hB3⟩
  have e1 : ((A.length : Nat) : Int) + ((H.length : Nat) : Int) = ((h.length : Nat) : Int) := by have := HH.out; omega
  rw [← e1]; rfl
end Go.Proofs.YtomeocofnbnegaaDoor
