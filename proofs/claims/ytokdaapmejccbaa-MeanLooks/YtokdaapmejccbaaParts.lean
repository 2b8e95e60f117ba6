import Derived.Test.YtokdaapmejccbaaSize
import Derived.BigRegion
namespace Go.Proofs.Ytokdaapmejccbaa
open Go.RowKit
open Ex.In (InL)
open Ex.size (sizeL)
open Ex.nodes (nodesL)
theorem nodes_len (d : Int) : ∀ (e : Ex), (e.nodes d).length = e.size
  | .mk k S t a c kids => by rw [Ex.nodes, Ex.size, List.length_cons, nodesL_len (wrap64 (d + 1)) kids]; omega
  where
  nodesL_len (d : Int) : ∀ (l : List Ex), (nodesL d l).length = sizeL l
    | [] => rfl
    | e :: r => by rw [nodesL, sizeL, List.length_append, nodes_len d e, nodesL_len d r]
theorem nodesL_len (d : Int) : ∀ (l : List Ex), (nodesL d l).length = sizeL l := nodes_len.nodesL_len d
theorem wrap_small (d : Int) (h0 : 0 ≤ d) (h1 : d < 4611686018427387904) : wrap64 (d + 1) = d + 1 := by unfold wrap64; omega
theorem nodes_shift : ∀ (e : Ex) (d : Int), 0 ≤ d → d + e.size < 4611686018427387904 → e.nodes (d + 1) = (e.nodes d).map fun x => (x.1 + 1, x.2)
  | .mk k S t a c kids, d, h0, h1 => by
    rw [Ex.size] at h1
    rw [Ex.nodes, Ex.nodes, List.map_cons, wrap_small d h0 (by omega), wrap_small (d + 1) (by omega) (by omega), nodesL_shift kids (d + 1) (by omega) (by omega)]
  where
  nodesL_shift : ∀ (l : List Ex) (d : Int), 0 ≤ d → d + sizeL l < 4611686018427387904 → nodesL (d + 1) l = (nodesL d l).map fun x => (x.1 + 1, x.2)
    | [], _, _, _ => rfl
    | e :: r, d, h0, h1 => by
      rw [sizeL] at h1
      rw [nodesL, nodesL, List.map_append, nodes_shift e d h0 (by omega), nodesL_shift r d h0 (by omega)]
theorem nodesL_shift : ∀ (l : List Ex) (d : Int), 0 ≤ d → d + sizeL l < 4611686018427387904 → nodesL (d + 1) l = (nodesL d l).map fun x => (x.1 + 1, x.2) := nodes_shift.nodesL_shift (.mk 0 0#256 ByteArray.empty none 0 []) 0
theorem chk_zero : ∀ (l : List (Int × Ex)) (n : Nat), n ≤ 60 → (chk n l = 0 ↔ n + l.length ≤ 60 ∧ ∀ x ∈ l, x.1 ≤ 12 ∧ formOk x.2 = true)
  | [], n, h => by simp [chk, h]
  | (d, x) :: r, n, h => by
    rw [chk]
    by_cases h1 : 60 < n + 1
    · rw [if_pos h1]; simp; omega
    rw [if_neg h1]
    by_cases h2 : 12 < d
    · rw [if_pos h2]
      simp
      intro _ h3
      omega
    rw [if_neg h2]
    by_cases h3 : formOk x = true
    · rw [if_pos h3, chk_zero r (n + 1) (by omega)]
      simp only [List.length_cons, List.mem_cons, forall_eq_or_imp]
      constructor
      · rintro ⟨a, b⟩
        exact ⟨by omega, ⟨by omega, h3⟩, b⟩
      · rintro ⟨a, _, b⟩
        exact ⟨by omega, b⟩
    · rw [if_neg h3]
      simp [h3]
theorem check_zero (e : Ex) : check e = 0 ↔ e.size ≤ 60 ∧ ∀ x ∈ e.nodes 1, x.1 ≤ 12 ∧ formOk x.2 = true := by
  unfold check
  rw [chk_zero _ 0 (by omega), nodes_len]
  simp
theorem nodesL_mem (d : Int) (l : List Ex) (x : Ex) (hx : x ∈ l) : ∀ y ∈ x.nodes d, y ∈ nodesL d l := by
  intro y hy
  induction l with
  | nil => cases hx
  | cons e r ih =>
    rw [nodesL, List.mem_append]
    rcases List.mem_cons.1 hx with rfl | h
    · exact .inl hy
    · exact .inr (ih h)
/-- What stands within a right expression is right. -/
theorem check_kid (e x : Ex) (hx : x ∈ e.kids) (h : check e = 0) : check x = 0 := by
  rw [check_zero] at h ⊢
  have hs := size_kid hx
  refine ⟨by omega, fun y hy => ?_⟩
  have h2 : (y.1 + 1, y.2) ∈ e.nodes 1 := by
    rw [nodes_eq, wrap_small 1 (by omega) (by omega)]
    refine List.mem_cons_of_mem _ (nodesL_mem _ _ x hx _ ?_)
    rw [nodes_shift x 1 (by omega) (by omega)]
    exact List.mem_map.2 ⟨y, hy, rfl⟩
  have := h.2 _ h2
  exact ⟨by have := this.1; simp at this; omega, this.2⟩
theorem sizeR_ok (e : Ex) (h : check e = 0) : sizeR e = (e.size : Int) := by unfold sizeR; rw [if_pos h, nodes_len]
theorem sizeR_bad (e : Ex) (h : ¬ check e = 0) : sizeR e = 0 := by unfold sizeR; rw [if_neg h]
theorem sizeL_append : ∀ (l r : List Ex), sizeL (l ++ r) = sizeL l + sizeL r
  | [], r => by simp [sizeL]
  | e :: l, r => by rw [List.cons_append, sizeL, sizeL, sizeL_append l r]; omega
theorem sizeL_take (l : List Ex) (i : Nat) (x : Ex) (h : l[i]? = some x) : sizeL (l.take (i + 1)) = sizeL (l.take i) + x.size := by
  rw [List.take_add_one, h, Option.toList_some, sizeL_append, sizeL, sizeL]; omega
theorem size_eq (e : Ex) : e.size = 1 + sizeL e.kids := by cases e with | mk k S t a c kids => rw [Ex.size]; rfl
theorem wd_zero (k : Nat) : wd 0#256 k = 0 := by unfold wd; simp
/-- The expression that the law itself makes: not nothing. -/
def notNo (b : Nat) : Ex := .mk 11 0#256 ByteArray.empty (some ⟨b, 0, none⟩) 1 [.mk 1 0#256 ByteArray.empty none 0 []]
theorem noS_zero : noS 0#256 = true := by unfold noS; simp [wd_zero]
theorem notNo_check (b : Nat) : check (notNo b) = 0 := by
  unfold check notNo
  simp [Ex.nodes, nodesL, chk, formOk, textOk, setOk, kidsOk, Ex.k, Ex.t, Ex.S, Ex.kids, noS_zero, wrap64]
theorem notNo_size (b : Nat) : sizeR (notNo b) = 2 := by
  rw [sizeR_ok _ (notNo_check b)]
  simp [notNo, Ex.size, sizeL]
theorem notNo_in (w : World) : (notNo w.heap.size).In (w.heap.size + 1) (w.alloc (.cells #[.int .i64 1, .int .u64 0, .int .u64 0, .int .u64 0, .int .u64 0, .string ByteArray.empty, .slice none 0 0] 57)) := by
  unfold notNo
  rw [Ex.In]
  refine ⟨⟨by simp, by simp⟩, ?_⟩
  rw [InL]
  refine ⟨⟨w.heap.size, 0, rfl, by omega, fun j hj => ?_⟩, ?_, by rw [InL]; trivial⟩
  · unfold World.cell?
    rw [World.alloc_heap_new]
    simp [Ex.cells, Ex.k, Ex.S, Ex.t, Ex.a, Ex.c, Ex.kids, wd_zero]
  · rw [Ex.In, InL]
    simp
end Go.Proofs.Ytokdaapmejccbaa
