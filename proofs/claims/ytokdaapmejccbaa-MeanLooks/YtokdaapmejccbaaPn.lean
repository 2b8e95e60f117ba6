import Derived.Test.YtokdaapmejccbaaParts
import Derived.WalkSpells
import Derived.WalkLawsBesides
namespace Go.Proofs.Ytokdaapmejccbaa
open Go.RowKit
open Ex.nodes (nodesL)
/-- The nodes, none beneath those that are too deep or have too many kids. -/
def Ex.pn (d : Int) : Ex → List (Int × Ex)
  | .mk k S t a c kids => (d, .mk k S t a c kids) :: (if d ≤ 12 ∧ kids.length ≤ 8 then pnL (wrap64 (d + 1)) kids else [])
  where
  pnL (d : Int) : List Ex → List (Int × Ex)
    | [] => []
    | e :: r => Ex.pn d e ++ pnL d r
open Ex.pn (pnL)
theorem pn_eq (d : Int) (e : Ex) : e.pn d = (d, e) :: (if d ≤ 12 ∧ e.kids.length ≤ 8 then pnL (wrap64 (d + 1)) e.kids else []) := by
  cases e with
  | mk k S t a c kids => rw [Ex.pn]; rfl
theorem formOk_many (e : Ex) (h : 8 < e.kids.length) : formOk e = false := by
  unfold formOk kidsOk
  rw [show (if e.k = 1 ∨ e.k = 2 ∨ e.k = 3 ∨ e.k = 4 then decide (e.kids.length = 0) else if e.k = 5 ∨ e.k = 6 then decide (2 ≤ e.kids.length) && decide (e.kids.length ≤ 8) else if 7 ≤ e.k ∧ e.k ≤ 11 then decide (e.kids.length = 1) else false) = false from by
    split
    · exact decide_eq_false (by omega)
    split
    · rw [decide_eq_false (by omega : ¬ e.kids.length ≤ 8), Bool.and_false]
    split
    · exact decide_eq_false (by omega)
    · rfl]
  simp
theorem chk_pn : ∀ (e : Ex) (d : Int) (n : Nat) (r r' : List (Int × Ex)), (∀ m, chk m r = chk m r') → chk n (e.pn d ++ r) = chk n (e.nodes d ++ r')
  | .mk k S t a c kids, d, n, r, r', h => by
    rw [Ex.pn, Ex.nodes, List.cons_append, List.cons_append, chk, chk]
    by_cases h1 : 60 < n + 1
    · rw [if_pos h1, if_pos h1]
    rw [if_neg h1, if_neg h1]
    by_cases h2 : 12 < d
    · rw [if_pos h2, if_pos h2]
    rw [if_neg h2, if_neg h2]
    by_cases h3 : formOk (.mk k S t a c kids) = true
    · rw [if_pos h3, if_pos h3]
      have h4 : kids.length ≤ 8 := by
        rcases Nat.lt_or_ge 8 kids.length with h5 | h5
        · rw [formOk_many (.mk k S t a c kids) h5] at h3; cases h3
        · exact h5
      rw [if_pos ⟨by omega, h4⟩]
      exact chk_pnL kids _ _ r r' h
    · rw [if_neg h3, if_neg h3]
  where
  chk_pnL : ∀ (l : List Ex) (d : Int) (n : Nat) (r r' : List (Int × Ex)), (∀ m, chk m r = chk m r') → chk n (pnL d l ++ r) = chk n (nodesL d l ++ r')
    | [], d, n, r, r', h => by rw [pnL, nodesL]; exact h n
    | e :: l, d, n, r, r', h => by
      rw [pnL, nodesL, List.append_assoc, List.append_assoc]
      exact chk_pn e d n _ _ fun m => chk_pnL l d m r r' h
theorem chk_pnL : ∀ (l : List Ex) (d : Int) (n : Nat) (r r' : List (Int × Ex)), (∀ m, chk m r = chk m r') → chk n (pnL d l ++ r) = chk n (nodesL d l ++ r') := chk_pn.chk_pnL
theorem chk_take : ∀ (l : List (Int × Ex)) (n : Nat), n ≤ 60 → chk n (l.take (61 - n)) = chk n l
  | [], n, _ => by simp
  | (d, x) :: r, n, h => by
    rw [show 61 - n = (60 - n) + 1 from by omega, List.take_succ_cons, chk, chk]
    by_cases h1 : 60 < n + 1
    · rw [if_pos h1, if_pos h1]
    rw [if_neg h1, if_neg h1]
    by_cases h2 : 12 < d
    · rw [if_pos h2, if_pos h2]
    rw [if_neg h2, if_neg h2]
    by_cases h3 : formOk x = true
    · rw [if_pos h3, if_pos h3]
      have := chk_take r (n + 1) (by omega)
      rwa [show 61 - (n + 1) = 60 - n from by omega] at this
    · rw [if_neg h3, if_neg h3]
/-- The nodes that the reference lists. -/
def rnodes (e : Ex) : List (Int × Ex) := (e.pn 1).take 61
theorem chk_rnodes (e : Ex) : chk 0 (rnodes e) = check e := by
  unfold rnodes check
  have h1 := chk_take (e.pn 1) 0 (by omega)
  rw [Nat.sub_zero] at h1
  rw [h1]
  have h2 := chk_pn e 1 0 [] [] fun _ => rfl
  rwa [List.append_nil, List.append_nil] at h2
theorem pn_ok : ∀ (e : Ex) (d : Int), (∀ x ∈ e.nodes d, x.1 ≤ 12 ∧ formOk x.2 = true) → e.pn d = e.nodes d
  | .mk k S t a c kids, d, h => by
    rw [Ex.nodes] at h
    rw [Ex.pn, Ex.nodes]
    have h0 := h _ List.mem_cons_self
    have h4 : kids.length ≤ 8 := by
      rcases Nat.lt_or_ge 8 kids.length with h5 | h5
      · have h6 := h0.2; rw [formOk_many (.mk k S t a c kids) h5] at h6; cases h6
      · exact h5
    rw [if_pos ⟨h0.1, h4⟩, pnL_ok kids _ fun x hx => h x (List.mem_cons_of_mem _ hx)]
  where
  pnL_ok : ∀ (l : List Ex) (d : Int), (∀ x ∈ nodesL d l, x.1 ≤ 12 ∧ formOk x.2 = true) → pnL d l = nodesL d l
    | [], d, h => by rw [pnL, nodesL]
    | e :: r, d, h => by
      rw [nodesL] at h
      rw [pnL, nodesL, pn_ok e d fun x hx => h x (List.mem_append_left _ hx), pnL_ok r d fun x hx => h x (List.mem_append_right _ hx)]
theorem pnL_ok : ∀ (l : List Ex) (d : Int), (∀ x ∈ nodesL d l, x.1 ≤ 12 ∧ formOk x.2 = true) → pnL d l = nodesL d l := pn_ok.pnL_ok
theorem rnodes_ok (e : Ex) (h : check e = 0) : rnodes e = e.nodes 1 := by
  have hl := check_len e h
  unfold rnodes
  rw [pn_ok e 1 ((check_zero e).1 h).2, List.take_of_length_le (by omega)]
/-- What is still to come of those that wait. -/
def pflat : List (Int × Ex) → List (Int × Ex)
  | [] => []
  | x :: r => x.2.pn x.1 ++ pflat r
theorem pflat_append : ∀ (l r : List (Int × Ex)), pflat (l ++ r) = pflat l ++ pflat r
  | [], r => rfl
  | x :: l, r => by rw [List.cons_append, pflat, pflat, pflat_append l r, List.append_assoc]
theorem pflat_kids (d : Int) : ∀ (l : List Ex), pflat (l.map fun x => (d, x)) = pnL d l
  | [] => rfl
  | e :: r => by rw [List.map_cons, pflat, pnL, pflat_kids d r]
/-- What comes next behind a node. -/
def nexts (x : Int × Ex) : List (Int × Ex) := if x.1 ≤ 12 ∧ x.2.kids.length ≤ 8 then x.2.kids.map (fun k => (wrap64 (x.1 + 1), k)) else []
theorem pflat_step (x : Int × Ex) (r : List (Int × Ex)) : pflat (x :: r) = x :: pflat (nexts x ++ r) := by
  rw [pflat, pn_eq, pflat_append, List.cons_append]
  unfold nexts
  by_cases h : x.1 ≤ 12 ∧ x.2.kids.length ≤ 8
  · rw [if_pos h, if_pos h, pflat_kids]
  · rw [if_neg h, if_neg h]; rfl
theorem nexts_len (x : Int × Ex) : (nexts x).length ≤ 8 := by
  unfold nexts
  split
  · rename_i h; simpa using h.2
  · simp
/-- A node as cells. -/
def ncell (x : Int × Ex) : List Value := x.2.cells.toList ++ [.int .i64 x.1]
def ncells (l : List (Int × Ex)) : List Value := l.flatMap ncell
theorem ncell_len (x : Int × Ex) : (ncell x).length = 8 := by simp [ncell, Ex.cells]
theorem ncells_app (l r : List (Int × Ex)) : ncells (l ++ r) = ncells l ++ ncells r := by simp [ncells]
theorem ncells_len : ∀ (l : List (Int × Ex)), (ncells l).length = l.length * 8
  | [] => rfl
  | x :: r => by
    rw [show ncells (x :: r) = ncell x ++ ncells r from rfl, List.length_append, ncell_len, ncells_len r, List.length_cons]; omega
theorem ncells_at : ∀ (l : List (Int × Ex)) (i j : Nat) (x : Int × Ex), l[i]? = some x → j < 8 → (ncells l)[i * 8 + j]? = (ncell x)[j]?
  | [], i, j, x, h, _ => by simp at h
  | y :: r, 0, j, x, h, hj => by
    simp at h; subst h
    rw [show ncells (y :: r) = ncell y ++ ncells r from rfl, Nat.zero_mul, Nat.zero_add, List.getElem?_append_left (by rw [ncell_len]; exact hj)]
  | y :: r, i + 1, j, x, h, hj => by
    rw [show ncells (y :: r) = ncell y ++ ncells r from rfl, List.getElem?_append_right (by rw [ncell_len]; omega), ncell_len, show (i + 1) * 8 + j - 8 = i * 8 + j from by omega]
    exact ncells_at r i j x (by simpa using h) hj
theorem ncell_one (l : List (Int × Ex)) : ∀ u ∈ ncells l, u.oneCell' = true := by
  intro u hu
  obtain ⟨x, _, hx⟩ := List.mem_flatMap.1 hu
  simp [ncell, Ex.cells] at hx
  rcases hx with rfl | rfl | rfl | rfl | rfl | rfl | rfl | rfl <;> rfl
theorem Try.info80 : (Try.prog.info? 80).map (fun i => (i.zero, i.size, i.bytes)) = some (some (.agg #[.int .i64 0, .int .u64 0, .int .u64 0, .int .u64 0, .int .u64 0, .string ByteArray.empty, .slice none 0 0, .int .i64 0]), 8, 88) := by kernel_rfl
/-- A slice of nodes of the call's own. -/
def Nd (w : World) (base : Nat) (v : Value) (l : List (Int × Ex)) : Prop := w.ownsRow base 80 8 v l.length (ncells l)
end Go.Proofs.Ytokdaapmejccbaa
