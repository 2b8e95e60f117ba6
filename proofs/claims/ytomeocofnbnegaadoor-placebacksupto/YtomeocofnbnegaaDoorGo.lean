import Derived.Test.YtomeocofnbnegaaDoorRows
import Derived.Test.YtomeocofnbnegaaDoorRuns
import Derived.WalkKit
import Derived.WalkSpells
import Derived.WalkLawsBesides
namespace Go.Proofs.YtomeocofnbnegaaDoor
open Go.RowKit
theorem ret_int {k : IntKind} {a b : Int} (h : a = b) : Ending.returned (.int k a) = .returned (.int k b) := by rw [h]
/-- The next sign of a text that is gone through. -/
theorem run_next_at {P : Program} (w : World) (s : ByteArray) (pos : Nat) (ty : TypeId) (h : pos < s.size) :
    (Instr.next (.pointer (some ⟨w.heap.size, 0, none⟩)) true ty).run P (w.iter s pos) =
      .ok (.tuple #[.bool true, .int .i64 pos, .int .i32 (Utf8.decode s pos).1]) (w.iter s (pos + (Utf8.decode s pos).2)) := by
  simp only [Instr.next, getObj, setObj, Sem.run_bind, Sem.run, World.iter_heap, Result.andThen, h, if_true, World.iter_set]
  simp [goInt]
/-- How much of the text is left to be gone through. -/
def itLeft (N n : Nat) (w : World) : Nat := match w.heap[N]? with | some (.stringIter _ p) => n - p | _ => 0
theorem itLeft_iter (w : World) (s : ByteArray) (p n : Nat) : itLeft w.heap.size n (w.iter s p) = n - p := by
  unfold itLeft; rw [World.iter_heap]
theorem below_iter (w : World) (s : ByteArray) (p : Nat) : Below w.heap.size w (w.iter s p) := (Below.refl _ _).alloc (Nat.le_refl _) _
/-- One sign more. -/
theorem Runs.next {k p : Nat} {t : List UInt8} (h : Runs k t (t.drop p)) (hp : p < t.length) : Runs (k + 1) t (t.drop (p + wid (t.drop p))) ∧ p + wid (t.drop p) ≤ t.length ∧ 1 ≤ wid (t.drop p) := by
  have hne : t.drop p ≠ [] := by
    intro e
    have := congrArg List.length e
    rw [List.length_drop, List.length_nil] at this
    omega
  have hw := wid_pos' hne
  rw [List.length_drop] at hw
  refine ⟨h.trans ⟨hne, ?_⟩, by omega, hw.1⟩
  rw [List.drop_drop]
  rfl
theorem size_list (s : ByteArray) : s.data.toList.length = s.size := rfl
set_option maxHeartbeats 400000 in
theorem signs_any (s : ByteArray) (w : World) (hs : (s.size : Int) ≤ 4611686018427387904) :
    Calls Tryd.prog 11 #[.string s] w fun e w' => e = .returned (.int .i64 (nS s.data.toList)) ∧ Below w.heap.size w w' := by
  have HL : Hid (s.data.toList.length = s.size) := size_list s
  go_enter Tryd.func11, Tryd.ntmps11
  go_wp2_with fail
  go_loopw [3] (fun t wx => ∃ (p k : Nat), t = .int .i64 k ∧ wx = w.iter s p ∧ p ≤ s.size ∧ k ≤ p ∧ Hid (Runs k s.data.toList (s.data.toList.drop p))) (fun _ wx => itLeft w.heap.size s.size wx)
  case atStart => exact ⟨0, 0, rfl, rfl, by omega, by omega, rfl⟩
  case round =>
    obtain ⟨p, k, rfl, rfl, hp, hk, HR⟩ := hrel
    by_cases hlt : p < s.size
    · have hn := fun ty => run_next_at (P := Tryd.prog) w s p ty hlt
      have hw := decode_wid s p hlt
      have HN := HR.out.next (by rw [HL.out]; exact hlt)
      rw [HL.out] at HN
      have H2 : Hid _ := HN
      clear HN
      go_wp2_with fail
      refine ⟨⟨p + wid (s.data.toList.drop p), k + 1, by go_num, rfl, H2.out.2.1, by have := H2.out.2.2; omega, H2.out.1⟩, ?_⟩
      rw [itLeft_iter, itLeft_iter]
      have := H2.out.2.2
      omega
    · have hn := fun ty => run_next_end (P := Tryd.prog) w s p ty hlt
      go_wp2_with fail
      go_ret
      refine ⟨ret_int ?_, below_iter _ _ _⟩
      have h1 := HR.out
      rw [List.drop_eq_nil_of_le (by rw [HL.out]; omega)] at h1
      rw [nS_of h1]
set_option maxHeartbeats 400000 in
theorem behind_yes (s : ByteArray) (n : Nat) (T : List UInt8) (w : World) (hs : (s.size : Int) ≤ 4611686018427387904) (HT : Hid (Runs n s.data.toList T)) :
    Calls Tryd.prog 16 #[.string s, .int .i64 n] w fun e w' => e = .returned (.tuple #[.int .i64 ((s.size - T.length : Nat) : Int), .bool true]) ∧ Below w.heap.size w w' := by
  have HL : Hid (s.data.toList.length = s.size) := size_list s
  have hnle : n ≤ s.size := by have := HT.out.length; rw [HL.out] at this; omega
  go_enter Tryd.func16, Tryd.ntmps16
  go_wp2_with fail
  go_loopw [6, 7] (fun t _ wx => ∃ (p k : Nat), t = .int .i64 k ∧ wx = w.iter s p ∧ p ≤ s.size ∧ k ≤ p ∧ k ≤ n ∧ Hid (Runs k s.data.toList (s.data.toList.drop p))) (fun _ _ wx => itLeft w.heap.size s.size wx)
  case atStart => exact ⟨0, 0, rfl, rfl, by omega, by omega, by omega, rfl⟩
  case round =>
    obtain ⟨p, k, rfl, rfl, hp, hk, hkn, HR⟩ := hrel
    by_cases hlt : p < s.size
    · have hn := fun ty => run_next_at (P := Tryd.prog) w s p ty hlt
      have hw := decode_wid s p hlt
      have HN := HR.out.next (by rw [HL.out]; exact hlt)
      rw [HL.out] at HN
      have H2 : Hid _ := HN
      clear HN
      by_cases hkn2 : k = n
      · have hb : ((k : Int) == (n : Int)) = true := by simp; omega
        have HK : Hid (k = n) := hkn2
        clear hkn2
        go_wp2_with fail
        go_ret2
        refine ⟨?_, below_iter _ _ _⟩
        have h1 := HR.out
        rw [HK.out] at h1
        have h2 := h1.det HT.out
        have h3 : T.length = s.size - p := by rw [← h2, List.length_drop, HL.out]
        rw [h3, show s.size - (s.size - p) = p from by omega]
        rfl
      · have hb : ((k : Int) == (n : Int)) = false := by simp; omega
        have HK : Hid (k ≠ n) := hkn2
        clear hkn2
        go_wp2_with fail
        refine ⟨⟨p + wid (s.data.toList.drop p), k + 1, by go_num, rfl, H2.out.2.1, by have := H2.out.2.2; omega, by have := HK.out; omega, H2.out.1⟩, ?_⟩
        rw [itLeft_iter, itLeft_iter]
        have := H2.out.2.2
        omega
    · have hn := fun ty => run_next_end (P := Tryd.prog) w s p ty hlt
      have h1 := HR.out
      rw [List.drop_eq_nil_of_le (by rw [HL.out]; omega)] at h1
      have h2 : k = n := by
        have h3 := HT.out
        rw [show n = k + (n - k) from by omega] at h3
        obtain ⟨v, h4, h5⟩ := h3.split
        rw [h4.det h1] at h5
        have := h5.length
        simp at this
        omega
      have h3 : T = [] := by rw [← h2] at HT; exact HT.out.det h1
      have hb : ((k : Int) == (n : Int)) = true := by simp; omega
      have HT3 : Hid (T = []) := h3
      clear h1 h2 h3
      go_wp2_with fail
      go_ret2
      refine ⟨?_, below_iter _ _ _⟩
      rw [HT3.out]; rfl
end Go.Proofs.YtomeocofnbnegaaDoor
