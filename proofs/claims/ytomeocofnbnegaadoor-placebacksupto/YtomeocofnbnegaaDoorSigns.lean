import Derived.Test.YtomeocofnbnegaaDoorFirstAll
import Derived.WalkKit
import Derived.WalkSpells
import Derived.WalkLawsBesides
namespace Go.Proofs.YtomeocofnbnegaaDoor
open Go.RowKit
/-- Where sign number k begins. -/
def bp (t : List UInt8) : Nat → Nat
  | 0 => 0
  | k + 1 => bp t k + wid (t.drop (bp t k))
theorem bp_runs (t : List UInt8) (k : Nat) (h : k ≤ nS t) : Runs k t (t.drop (bp t k)) ∧ bp t k ≤ t.length ∧ (k < nS t → bp t k < t.length) := by
  induction k with
  | zero =>
    refine ⟨rfl, Nat.zero_le _, fun h => ?_⟩
    have := nS_le t
    show 0 < t.length
    omega
  | succ k ih =>
    obtain ⟨h1, h2, h3⟩ := ih (by omega)
    have h4 := h3 (by omega)
    obtain ⟨h5, h6, h7⟩ := h1.next h4
    refine ⟨h5, h6, fun h => ?_⟩
    rcases Nat.lt_or_ge (bp t (k + 1)) t.length with h8 | h8
    · exact h8
    · exfalso
      have h9 : t.drop (bp t k + wid (t.drop (bp t k))) = [] := List.drop_eq_nil_of_le h8
      rw [h9] at h5
      have := nS_of h5
      omega
theorem bp_end (t : List UInt8) : bp t (nS t) = t.length := by
  obtain ⟨h1, h2, _⟩ := bp_runs t (nS t) (Nat.le_refl _)
  have h3 := h1.det (nS_runs t)
  have := congrArg List.length h3
  rw [List.length_drop, List.length_nil] at this
  omega
theorem bp_step (t : List UInt8) (k : Nat) (h : k < nS t) : bp t k < bp t (k + 1) := by
  obtain ⟨h1, _, h3⟩ := bp_runs t k (by omega)
  have := (h1.next (h3 h)).2.2
  show bp t k < bp t k + wid (t.drop (bp t k))
  omega
/-- The places of the first k signs, as cells. -/
def bcs (t : List UInt8) (k : Nat) : List Value := (List.range k).map fun j => Value.int .i64 (bp t j : Int)
theorem bcs_snoc (t : List UInt8) (k : Nat) : bcs t k ++ [.int .i64 (bp t k : Int)] = bcs t (k + 1) := by
  unfold bcs; rw [List.range_succ, List.map_append]; rfl
theorem ext_list (s : ByteArray) (i : Nat) : (s.extract i s.size).data.toList = s.data.toList.drop i := by
  rw [ByteArray.data_extract, Array.toList_extract]
  rw [List.extract_eq_take_drop]
  rw [List.take_of_length_le]
  rw [List.length_drop]; exact Nat.le_refl _
theorem ext_size (s : ByteArray) (i : Nat) : (s.extract i s.size).size = s.size - i := by simp
theorem Tryd.info3 : (Tryd.prog.info? 3).map (fun i => (i.zero, i.size, i.bytes)) = some (some (.int .i64 0), 1, 8) := by kernel_rfl
set_option maxRecDepth 20000 in
set_option maxHeartbeats 1000000 in
theorem signsList_any (s : ByteArray) (w : World) (hs : (s.size : Int) ≤ 1048576) :
    Calls Tryd.prog 13 #[.string s] w fun e w' => ∃ v, e = .returned v ∧ w'.ownsRow w.heap.size 3 1 v (nS s.data.toList) (bcs s.data.toList (nS s.data.toList)) ∧ Below w.heap.size w w' := by
  obtain ⟨i0, hi, hz0, hz1, hz2⟩ := info_parts Tryd.info3
  have HL : Hid (s.data.toList.length = s.size) := size_list s
  have hnl := nS_le s.data.toList
  rw [HL.out] at hnl
  go_enter Tryd.func13, Tryd.ntmps13
  go_wp2_with fail
  go_loopw [3, 4] (fun v i wx => ∃ k p : Nat, i = .int .i64 p ∧ k ≤ nS s.data.toList ∧ p ≤ s.size ∧ Hid (p = bp s.data.toList k) ∧ wx.ownsRow w.heap.size 3 1 v k (bcs s.data.toList k) ∧ Below w.heap.size w wx) (fun _ i _ => s.size - (intOf i).toNat)
  case atStart => exact ⟨0, 0, rfl, by omega, by omega, rfl, World.ownsRow_nil _ _ _ _, Below.refl _ _⟩
  case round =>
    obtain ⟨k, p, rfl, hk, hp, HP, hown, hB⟩ := hrel
    have hsz := hB.size
    by_cases hlt : p < s.size
    · have hkn : k < nS s.data.toList := by
        rcases Nat.lt_or_ge k (nS s.data.toList) with h | h
        · exact h
        · have e : k = nS s.data.toList := by omega
          have := bp_end s.data.toList
          rw [← e, ← HP.out, HL.out] at this
          omega
      have hstep := bp_step s.data.toList k hkn
      have hle := (bp_runs s.data.toList (k + 1) (by omega)).2.1
      rw [HL.out] at hle
      have HW : Hid (bp s.data.toList (k + 1) = p + wid (s.data.toList.drop p)) := by unfold Hid; rw [HP.out]; rfl
      rw [HW.out, ← HP.out] at hstep
      rw [HW.out] at hle
      have H1 : Hid (p < p + wid (s.data.toList.drop p)) := hstep
      have H2 : Hid (p + wid (s.data.toList.drop p) ≤ s.size) := hle
      clear hstep hle
      go_wp2_with (at_builtin; refine wpList_append_own _ rfl _ _ 35 rfl w.heap.size 3 i0 (.int .i64 0) 1 8 Tryd.underlying35 hi hz0 hz1 hz2 rfl (by decide) _ _ _ rfl (hown.alloc _) ⟨wr.heap.size, 0, none⟩ 1 1 [.int .i64 (p : Int)] rfl rfl ?c1 ?c2 ?c3 ?c4 ?c5 ?_)
      case c1 =>
        intro j u hj
        match j, hj with
        | 0, hj => simp at hj; subst hj; simp [Addr.add]
      case c2 => intro u hu; simp at hu; subst hu; rfl
      case c3 => unfold maxLen; omega
      case c4 => omega
      case c5 => simp; omega
      intro v' w2 hown2 hgrow _
      rw [HP.out, bcs_snoc] at hown2
      have hB2 := (hB.alloc hsz _).grown hgrow (by simp; omega) (fun q hq => (hown.lt _ hq).1)
      clear hown hgrow hB
      go_wp2_with fail
      refine (first_any (s.extract p s.size) _ (by rw [ext_size]; omega)).mono ?_
      rintro e w3 ⟨n, rfl, hn1, hn2, hw3⟩
      subst hw3
      rw [ext_list] at hn1
      have HN : Hid (max 1 n = wid (s.data.toList.drop p)) := hn1
      clear hn1
      by_cases h1n : (1 : Int) < (n : Int)
      · go_wp2_with fail
        have e1 : n = wid (s.data.toList.drop p) := by have := HN.out; omega
        exact ⟨⟨k + 1, p + n, by go_num, by omega, by rw [e1]; exact H2.out, by unfold Hid; rw [e1]; exact HW.out.symm, hown2, hB2⟩, by simp [intOf]; omega⟩
      · go_wp2_with fail
        have e1 : 1 = wid (s.data.toList.drop p) := by have := HN.out; omega
        exact ⟨⟨k + 1, p + 1, by go_num, by omega, by omega, by unfold Hid; rw [HW.out, ← e1], hown2, hB2⟩, by simp [intOf]; omega⟩
    · have hke : k = nS s.data.toList := by
        rcases Nat.lt_or_ge k (nS s.data.toList) with h | h
        · have := (bp_runs s.data.toList k hk).2.2 h
          rw [← HP.out, HL.out] at this
          omega
        · omega
      have HKE : Hid (k = nS s.data.toList) := hke
      clear hke
      go_wp2_with fail
      go_ret
      exact ⟨_, rfl, by rw [← HKE.out]; exact hown, hB⟩
end Go.Proofs.YtomeocofnbnegaaDoor
