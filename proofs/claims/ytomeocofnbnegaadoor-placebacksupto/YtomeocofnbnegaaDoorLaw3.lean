import Derived.Test.YtomeocofnbnegaaDoorPos
import Derived.Shelf.Vars
namespace Go.Proofs.YtomeocofnbnegaaDoor
open Go.RowKit
theorem Tail.uniq {h A H A' H' : List UInt8} (T : Tail h A H) (T' : Tail h A' H') : A = A' ∧ H = H' := by
  have he : A ++ H = A' ++ H' := T.eq.symm.trans T'.eq
  have key : ∀ {A H A' H' : List UInt8}, A ++ H = A' ++ H' → (∀ b ∈ H, b ≠ 10) → (A' = [] ∨ ∃ Q, A' = Q ++ [10]) → A'.length ≤ A.length := by
    intro A H A' H' he hH hf
    rcases hf with rfl | ⟨Q, rfl⟩
    · simp
    · rcases Nat.lt_or_ge A.length (Q ++ [10]).length with h | h
      · exfalso
        rw [List.length_append] at h
        simp at h
        have h1 : (A ++ H)[Q.length]? = ((Q ++ [10]) ++ H')[Q.length]? := by rw [he]
        rw [List.getElem?_append_right (by omega), List.append_assoc, List.getElem?_append_right (Nat.le_refl _), Nat.sub_self] at h1
        have h2 : H[Q.length - A.length]? = some 10 := by rw [h1]; rfl
        obtain ⟨h3, h4⟩ := List.getElem?_eq_some_iff.1 h2
        exact hH 10 (by rw [← h4]; exact List.getElem_mem h3) rfl
      · exact h
  have h1 := key he T.no T'.fin
  have h2 := key he.symm T'.no T.fin
  exact List.append_inj he (by omega)
theorem max_cell {w : World} (h : w.ShapedOpen Tryd.prog) : ∃ m, w.cell? ⟨0, 0, none⟩ = some (.int .i64 m) :=
  cell_of_shapedOpen_int (zero := #[.int .i64 0]) (t := 3) h (of_decide_eq_true (by kernel_rfl)) (by kernel_rfl) rfl (by kernel_rfl) (by kernel_rfl) Tryd.underlying3
set_option maxRecDepth 20000 in
set_option maxHeartbeats 1000000 in
theorem wheres_any (s : ByteArray) (a m : Int) (w : World) (hs : (s.size : Int) ≤ 1048576) (hm : w.cell? ⟨0, 0, none⟩ = some (.int .i64 m)) :
    Calls Tryd.prog 3 #[.string s, .int .i64 a] w fun e w' => e = .returned (.bool true) ∧ Below w.heap.size w w' := by
  have hw0 := lt_of_cell hm
  by_cases h : a < 0 ∨ (s.size : Int) < a
  · go_enter Tryd.func3, Tryd.ntmps3
    go_wp2_with fail
    refine (where_out s a _ h).mono ?_
    rintro e w1 ⟨rfl, hb1⟩
    go_wp2_with fail
    refine (pos_out s a _ h).mono ?_
    rintro e w2 ⟨rfl, hb2⟩
    have d0 : w2.cell? ⟨w1.heap.size, 0, none⟩ = some (.int .i64 0) := by rw [(bcell hb2).1 _ _ (by simp)]; simp [go_sem]
    have d1 : w2.cell? ⟨w1.heap.size, 1, none⟩ = some (.int .i64 0) := by rw [(bcell hb2).1 _ _ (by simp)]; simp [go_sem]
    have hlt : w1.heap.size < w2.heap.size := by have := hb2.size; simp at this; omega
    have hB : Below w.heap.size w w2 := (hb1.alloc hb1.size _).trans (hb2.mono (by have := hb1.size; simp; omega))
    clear hb1 hb2
    go_wp2_with fail
    go_ret
    exact ⟨rfl, hB.alloc hB.size _⟩
  · have h0 : 0 ≤ a := by omega
    obtain ⟨at', rfl⟩ := Int.eq_ofNat_of_zero_le h0
    have hat : at' ≤ s.size := by omega
    clear h
    go_enter Tryd.func3, Tryd.ntmps3
    go_wp2_with fail
    refine (where_ok s at' _ hs hat).mono ?_
    rintro e w1 ⟨A, H, hT, rfl, hb1⟩
    have hm1 : (w1.alloc (.cells #[.int .i64 (1 + (List.count 10 (s.data.toList.take at') : Nat)), .int .i64 (1 + (nS H : Nat))] 23)).cell? ⟨0, 0, none⟩ = some (.int .i64 m) := by
      rw [World.cell?_alloc_past _ _ _ (by have := hb1.size; omega), hb1.cell (p := ⟨0, 0, none⟩) hw0]; exact hm
    go_wp2_with fail
    refine (pos_ok s at' m _ hs hat hm1).mono ?_
    rintro e w2 ⟨A2, H2, hT2, rfl, hb2⟩
    rw [(hT2.uniq hT).2]
    have d0 : w2.cell? ⟨w1.heap.size, 0, none⟩ = some (.int .i64 (1 + (List.count 10 (s.data.toList.take at') : Nat))) := by rw [(bcell hb2).1 _ _ (by simp)]; simp [go_sem]
    have d1 : w2.cell? ⟨w1.heap.size, 1, none⟩ = some (.int .i64 (1 + (nS H : Nat))) := by rw [(bcell hb2).1 _ _ (by simp)]; simp [go_sem]
    have hlt : w1.heap.size < w2.heap.size := by have := hb2.size; simp at this; omega
    have hB : Below w.heap.size w w2 := (hb1.alloc hb1.size _).trans (hb2.mono (by have := hb1.size; simp; omega))
    clear hb1 hb2 hT hT2 hm1
    go_wp2_with fail
    go_ret
    exact ⟨rfl, hB.alloc hB.size _⟩
end Go.Proofs.YtomeocofnbnegaaDoor
