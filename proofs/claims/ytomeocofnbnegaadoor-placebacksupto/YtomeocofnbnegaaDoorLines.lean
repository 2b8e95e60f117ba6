import Derived.Test.YtomeocofnbnegaaDoorLaw3
namespace Go.Proofs.YtomeocofnbnegaaDoor
open Go.RowKit
/-- Where line number n begins. -/
def offL : List (List UInt8) → Nat → Nat
  | _, 0 => 0
  | [], _ + 1 => 0
  | l :: ls, n + 1 => l.length + 1 + offL ls n
theorem offL_step (ls : List (List UInt8)) (n : Nat) (l : List UInt8) (h : ls[n]? = some l) : offL ls (n + 1) = offL ls n + (l.length + 1) := by
  induction ls generalizing n with
  | nil => simp at h
  | cons x ls ih =>
    cases n with
    | zero => simp at h; subst h; simp [offL]
    | succ n =>
      rw [List.getElem?_cons_succ] at h
      have h1 := ih n h
      show x.length + 1 + offL ls (n + 1) = (x.length + 1 + offL ls n) + (l.length + 1)
      omega
/-- Line number n of a text, and what stands ahead of it and behind. -/
structure Line (t A l R : List UInt8) (n : Nat) : Prop where
  eq : t = A ++ (l ++ R)
  cnt : List.count 10 A = n
  fin : A = [] ∨ ∃ A', A = A' ++ [10]
  no : ∀ b ∈ l, b ≠ 10
  rest : R = [] ∨ ∃ r, R = 10 :: r
theorem spl_line (k : Nat) (t : List UInt8) (hk : List.count 10 t = k) (n : Nat) (hn : n ≤ k) : ∃ A l R, (spl k t)[n]? = some l ∧ Line t A l R n ∧ A.length = offL (spl k t) n := by
  induction k generalizing t n with
  | zero =>
    obtain rfl : n = 0 := by omega
    exact ⟨[], t, [], rfl, ⟨by simp, rfl, .inl rfl, fun b hb e => by rw [e] at hb; exact List.count_eq_zero.1 hk hb, .inl rfl⟩, rfl⟩
  | succ k ih =>
    obtain ⟨Q1, Q2, h1, h2⟩ := first_nl t (by omega)
    have hc : List.count 10 Q2 = k := by rw [h1, count_line Q1 Q2 h2] at hk; omega
    have hs : spl (k + 1) t = Q1 :: spl k Q2 := by
      show t.takeWhile (fun b => b != 10) :: spl k (t.drop ((t.takeWhile (fun b => b != 10)).length + 1)) = _
      rw [h1, take_line Q1 Q2 h2, List.drop_append, List.drop_eq_nil_of_le (by omega), show Q1.length + 1 - Q1.length = 1 from by omega]; rfl
    rw [hs]
    cases n with
    | zero => exact ⟨[], Q1, 10 :: Q2, rfl, ⟨by rw [h1]; rfl, rfl, .inl rfl, h2, .inr ⟨Q2, rfl⟩⟩, rfl⟩
    | succ n =>
      obtain ⟨A, l, R, h3, h4, h5⟩ := ih Q2 hc n (by omega)
      refine ⟨Q1 ++ 10 :: A, l, R, by rw [List.getElem?_cons_succ]; exact h3, ⟨?_, ?_, ?_, h4.no, h4.rest⟩, ?_⟩
      · rw [h1]; conv => lhs; rw [h4.eq]
        simp
      · rw [count_line Q1 A h2, h4.cnt]
      · rcases h4.fin with e | ⟨A', e⟩
        · exact .inr ⟨Q1, by rw [e]⟩
        · exact .inr ⟨Q1 ++ 10 :: A', by rw [e]; simp⟩
      · show (Q1 ++ 10 :: A).length = Q1.length + 1 + offL (spl k Q2) n
        rw [List.length_append, List.length_cons, h5]; omega
theorem cut_uniq {l R L R' : List UInt8} (h1 : ∀ b ∈ l, b ≠ 10) (h2 : ∀ b ∈ L, b ≠ 10) (he : l ++ R = L ++ R') (hR : R = [] ∨ ∃ r, R = 10 :: r) (hR' : R' = [] ∨ ∃ r, R' = 10 :: r) : L = l := by
  have a := tail_le h1 he hR'
  have b := tail_le h2 he.symm hR
  exact (List.append_inj he (by omega)).1.symm
/-- No sign number n is there. -/
theorem not_runs {t : List UInt8} {n k p : Nat} (hn : nS t < n) (h : Runs k t (t.drop p)) (_hp : p ≤ t.length) : k < n := by
  rcases Nat.lt_or_ge k n with h1 | h1
  · exact h1
  · exfalso
    have h2 := nS_runs (t.drop p)
    have h3 := nS_of (h.trans h2)
    omega
set_option maxRecDepth 20000 in
set_option maxHeartbeats 400000 in
theorem behind_no (s : ByteArray) (n : Nat) (w : World) (hs : (s.size : Int) ≤ 1048576) (HN : Hid (nS s.data.toList < n)) :
    Calls Tryd.prog 16 #[.string s, .int .i64 n] w fun e w' => ∃ v, e = .returned (.tuple #[v, .bool false]) ∧ Below w.heap.size w w' := by
  have HL : Hid (s.data.toList.length = s.size) := size_list s
  go_enter Tryd.func16, Tryd.ntmps16
  go_wp2_with fail
  go_loopw [6, 7] (fun t _ wx => ∃ (p k : Nat), t = .int .i64 k ∧ wx = w.iter s p ∧ p ≤ s.size ∧ k ≤ p ∧ Hid (Runs k s.data.toList (s.data.toList.drop p))) (fun _ _ wx => itLeft w.heap.size s.size wx)
  case atStart => exact ⟨0, 0, rfl, rfl, by omega, by omega, rfl⟩
  case round =>
    obtain ⟨p, k, rfl, rfl, hp, hk, HR⟩ := hrel
    have hkn : k < n := not_runs HN.out HR.out (by rw [HL.out]; exact hp)
    have hb : ((k : Int) == (n : Int)) = false := by rw [beq_eq_false_iff_ne]; omega
    by_cases hlt : p < s.size
    · have hn := fun ty => run_next_at (P := Tryd.prog) w s p ty hlt
      have hw := decode_wid s p hlt
      have HN2 := HR.out.next (by rw [HL.out]; exact hlt)
      rw [HL.out] at HN2
      have H2 : Hid _ := HN2
      clear HN2
      go_wp2_with fail
      refine ⟨⟨p + wid (s.data.toList.drop p), k + 1, by go_num, rfl, H2.out.2.1, by have := H2.out.2.2; omega, H2.out.1⟩, ?_⟩
      rw [itLeft_iter, itLeft_iter]
      have := H2.out.2.2
      omega
    · have hn := fun ty => run_next_end (P := Tryd.prog) w s p ty hlt
      go_wp2_with fail
      go_ret2
      exact ⟨_, rfl, below_iter _ _ _⟩
set_option maxRecDepth 20000 in
set_option maxHeartbeats 1000000 in
theorem bol_no (s : ByteArray) (n : Nat) (w : World) (hs : (s.size : Int) ≤ 1048576) (hn : (n : Int) ≤ 9223372036854775806) (HN : Hid (List.count 10 s.data.toList < n)) :
    Calls Tryd.prog 14 #[.string s, .int .i64 (1 + (n : Int))] w fun e w' => e = .returned (.tuple #[.int .i64 0, .bool false]) ∧ w' = w := by
  have HL : Hid (s.data.toList.length = s.size) := size_list s
  obtain ⟨A, X, T, _⟩ := last_tail s
  have HT : Hid (Tail s.data.toList A X) := T
  obtain ⟨c, HC⟩ : ∃ c, Hid (List.count 10 A = c) := ⟨_, rfl⟩
  have hcn : c < n := by
    have h1 := HN.out
    rw [T.eq, List.count_append, count_no X T.no, HC.out] at h1
    omega
  have hal : A.length ≤ s.size := by have := congrArg List.length T.eq; rw [List.length_append, HL.out] at this; omega
  have hcl : (c : Int) ≤ 1048576 := by have h1 : List.count 10 A ≤ A.length := List.count_le_length; rw [HC.out] at h1; omega
  clear T
  go_enter Tryd.func14, Tryd.ntmps14
  go_wp2_with fail
  go_loopw [4, 5, 6, 7, 10] (fun _ _ b _ i wx => wx = w ∧ ∃ (j p : Nat) (Q : List UInt8), b = .int .i64 p ∧ i = .int .i64 j ∧ j ≤ c ∧ p ≤ s.size ∧ Hid (Bol s.data.toList A X c j p Q)) (fun _ _ _ _ i _ => n - (intOf i).toNat)
  case atStart => exact ⟨rfl, 0, 0, A, rfl, rfl, by omega, by omega, ⟨HT.out.eq, HC.out, HT.out.fin, by omega⟩⟩
  case round =>
    obtain ⟨rfl, j, p, Q, rfl, rfl, hj, hp, HB⟩ := hrel
    have hjn : (j : Int) < (n : Int) := by omega
    by_cases hjc : j < c
    · obtain ⟨q, h1, h2, Q2, h3⟩ := HB.out.next hjc
      have H1 : Hid (Lib.indexByte (s.data.toList.drop p) 10 = q) := h1
      have H3 : Hid (Bol s.data.toList A X c (j + 1) (p + (q + 1)) Q2) := h3
      clear h1 h3
      go_wp2_with fail
      refine (Tryd.strings_Index_one (s.extract p s.size) 10 _).mono ?_
      rintro e w1 ⟨rfl, hw1⟩
      subst hw1
      rw [ext_list, H1.out]
      go_wp2_with fail
      exact ⟨⟨trivial, j + 1, p + (q + 1), Q2, by go_num, by go_num, by omega, by omega, H3⟩, by simp [intOf]; omega⟩
    · have H1 : Hid (Lib.indexByte (s.data.toList.drop p) 10 = -1) := by
        have hB := HB.out
        have h1 := hB.cnt
        have e : Q = [] := by
          rcases hB.fin with e | ⟨Q', e⟩
          · exact e
          · rw [e, List.count_append] at h1
            simp at h1
            omega
        unfold Hid
        rw [hB.eq, e, List.nil_append]
        exact indexByte_no X HT.out.no
      go_wp2_with fail
      refine (Tryd.strings_Index_one (s.extract p s.size) 10 _).mono ?_
      rintro e w1 ⟨rfl, hw1⟩
      subst hw1
      rw [ext_list, H1.out]
      go_wp2_with fail
      go_ret2
      exact ⟨rfl, rfl⟩
end Go.Proofs.YtomeocofnbnegaaDoor
