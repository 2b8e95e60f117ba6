import Derived.Test.YthcnificamidhaaWgB
import Derived.WalkKit
import Derived.Below
import Derived.Deep.QuietTactic
import Derived.Deep.AppendLies
import Derived.OneCell
import Derived.Test.YthcnificamidhaaSch
namespace Go.Proofs.Ythcnificamidhaa
open Go.RowKit
set_option linter.unusedVariables false
set_option linter.unusedSimpArgs false
/-- What Well tells, checked or not. -/
def W9 (g : Gr) (n e : Int) : Prop := (gcheck g.rules ≠ 0 ∧ e = gcheck g.rules) ∨ (gcheck g.rules = 0 ∧ ∃ lf, WellN g lf n e)
theorem well9 (g : Gr) (w : World) (hin : g.In w.heap.size w) : Calls Try.prog 9 #[g.val] w fun r W' => ∃ n e : Int, r = .returned (.tuple #[.int .i64 n, .int .i64 e]) ∧ W9 g n e ∧ Below w.heap.size w W' := by
  by_cases h0 : gcheck g.rules = 0
  · refine (well_ok g h0 w hin).mono ?_
    rintro r W' ⟨lf, hL, n, e, hN, hr, hB⟩
    exact ⟨n, e, hr, .inr ⟨h0, lf, hN⟩, hB⟩
  · refine (well_no g h0 w hin).mono ?_
    rintro r W' ⟨hr, hB⟩
    exact ⟨0, _, hr, .inl ⟨h0, rfl⟩, hB⟩
/-- Two kids in a block of their own. -/
theorem two_in {w : World} {B : Nat} {k : Int} {c : Nat} {x y : Ex} (hb : BoxN w B 43 (x.cells ++ y.cells)) (hx : x.In w.heap.size w) (hy : y.In w.heap.size w) : (exo k ByteArray.empty (some ⟨B, 0, none⟩) c [x, y]).In w.heap.size w := by
  unfold exo
  rw [Ex.In, Ex.In.InL, Ex.In.InL, Ex.In.InL]
  have hxs : x.cells.size = 7 := rfl
  refine ⟨⟨by simp, by decide⟩, ⟨B, 0, rfl, hb.lt, fun j hj => ?_⟩, hx, ⟨B, 0, rfl, hb.lt, fun j hj => ?_⟩, hy, trivial⟩
  · rw [hb.cell, Array.getElem?_append_left (by rw [hxs]; omega), show 0 + 0 * 7 + j = j from by omega]
  · rw [hb.cell, Array.getElem?_append_right (by rw [hxs]; omega), hxs, show 0 + (0 + 1) * 7 + j - 7 = j from by omega]
theorem leaf_in (n : Nat) (W : World) (k : Int) (t : ByteArray) (ht : t.size ≤ 12) : (exo k t none 0 []).In n W := by
  unfold exo
  rw [Ex.In, Ex.In.InL]
  exact ⟨⟨by simp, by omega⟩, trivial⟩
theorem exo_cells (k : Int) (t : ByteArray) (a : Option Addr) (c : Nat) (l : List Ex) : (exo k t a c l).cells = #[.int .i64 k, .int .u64 0, .int .u64 0, .int .u64 0, .int .u64 0, .string t, .slice a l.length c] := by
  simp only [Ex.cells, exo, Ex.k, Ex.S, Ex.t, Ex.a, Ex.c, Ex.kids, wd_none]
theorem c14_eq : (exo 3 nx none 0 []).cells ++ (exo 4 na none 0 []).cells = #[.int .i64 3, .int .u64 0, .int .u64 0, .int .u64 0, .int .u64 0, .string ⟨#[120]⟩, .slice none 0 0, .int .i64 4, .int .u64 0, .int .u64 0, .int .u64 0, .int .u64 0, .string ⟨#[97]⟩, .slice none 0 0] := by
  rw [exo_cells, exo_cells]; rfl
/-- What the first grammar's body is, and that Well says 0 of it. -/
theorem first_in {w : World} (W : World) (hW : Below w.heap.size w W) : Below w.heap.size w (W.alloc (.cells #[.int .i64 3, .int .u64 0, .int .u64 0, .int .u64 0, .int .u64 0, .string ⟨#[120]⟩, .slice none 0 0, .int .i64 4, .int .u64 0, .int .u64 0, .int .u64 0, .int .u64 0, .string ⟨#[97]⟩, .slice none 0 0] 43)) ∧ (eb1 (some ⟨W.heap.size, 0, none⟩) 2).In (W.alloc (.cells #[.int .i64 3, .int .u64 0, .int .u64 0, .int .u64 0, .int .u64 0, .string ⟨#[120]⟩, .slice none 0 0, .int .i64 4, .int .u64 0, .int .u64 0, .int .u64 0, .int .u64 0, .string ⟨#[97]⟩, .slice none 0 0] 43)).heap.size (W.alloc (.cells #[.int .i64 3, .int .u64 0, .int .u64 0, .int .u64 0, .int .u64 0, .string ⟨#[120]⟩, .slice none 0 0, .int .i64 4, .int .u64 0, .int .u64 0, .int .u64 0, .int .u64 0, .string ⟨#[97]⟩, .slice none 0 0] 43)) := by
  refine ⟨hW.alloc hW.size _, ?_⟩
  have h1 : BoxN (W.alloc (.cells #[.int .i64 3, .int .u64 0, .int .u64 0, .int .u64 0, .int .u64 0, .string ⟨#[120]⟩, .slice none 0 0, .int .i64 4, .int .u64 0, .int .u64 0, .int .u64 0, .int .u64 0, .string ⟨#[97]⟩, .slice none 0 0] 43)) W.heap.size 43 ((exo 3 nx none 0 []).cells ++ (exo 4 na none 0 []).cells) := by rw [c14_eq]; exact BoxN.new W 43 _
  exact two_in h1 (leaf_in _ _ 3 nx (by decide)) (leaf_in _ _ 4 na (by decide))
theorem one_in {w : World} {B : Nat} {k : Int} {c : Nat} {x : Ex} (hb : BoxN w B 43 x.cells) (hx : x.In w.heap.size w) : (exo k ByteArray.empty (some ⟨B, 0, none⟩) c [x]).In w.heap.size w := by
  unfold exo
  rw [Ex.In, Ex.In.InL, Ex.In.InL]
  refine ⟨⟨by simp, by decide⟩, ⟨B, 0, rfl, hb.lt, fun j hj => ?_⟩, hx, trivial⟩
  rw [hb.cell, show 0 + 0 * 7 + j = j from by omega]
/-- The literal that may be. -/
def opx (B : Nat) : Ex := exo 9 ByteArray.empty (some ⟨B, 0, none⟩) 1 [exo 3 nx none 0 []]
theorem opt_in {w : World} (W : World) (hW : Below w.heap.size w W) : Below w.heap.size w (W.alloc (.cells #[.int .i64 3, .int .u64 0, .int .u64 0, .int .u64 0, .int .u64 0, .string ⟨#[120]⟩, .slice none 0 0] 43)) ∧ (opx W.heap.size).In (W.alloc (.cells #[.int .i64 3, .int .u64 0, .int .u64 0, .int .u64 0, .int .u64 0, .string ⟨#[120]⟩, .slice none 0 0] 43)).heap.size (W.alloc (.cells #[.int .i64 3, .int .u64 0, .int .u64 0, .int .u64 0, .int .u64 0, .string ⟨#[120]⟩, .slice none 0 0] 43)) := by
  refine ⟨hW.alloc hW.size _, ?_⟩
  have h1 : BoxN (W.alloc (.cells #[.int .i64 3, .int .u64 0, .int .u64 0, .int .u64 0, .int .u64 0, .string ⟨#[120]⟩, .slice none 0 0] 43)) W.heap.size 43 (exo 3 nx none 0 []).cells := by rw [exo_cells]; exact BoxN.new W 43 _
  exact one_in h1 (leaf_in _ _ 3 nx (by decide))
theorem opt_cells (B : Nat) : (opx B).cells ++ (exo 4 na none 0 []).cells = #[.int .i64 9, .int .u64 0, .int .u64 0, .int .u64 0, .int .u64 0, .string ByteArray.empty, .slice (some ⟨B, 0, none⟩) 1 1, .int .i64 4, .int .u64 0, .int .u64 0, .int .u64 0, .int .u64 0, .string ⟨#[97]⟩, .slice none 0 0] := by
  unfold opx
  rw [exo_cells, exo_cells]; rfl
theorem second_in {w : World} (B : Nat) (W : World) (hW : Below w.heap.size w W) (ho : (opx B).In W.heap.size W) : Below w.heap.size w (W.alloc (.cells #[.int .i64 9, .int .u64 0, .int .u64 0, .int .u64 0, .int .u64 0, .string ByteArray.empty, .slice (some ⟨B, 0, none⟩) 1 1, .int .i64 4, .int .u64 0, .int .u64 0, .int .u64 0, .int .u64 0, .string ⟨#[97]⟩, .slice none 0 0] 43)) ∧ (eb2 (some ⟨W.heap.size, 0, none⟩) 2 (some ⟨B, 0, none⟩) 1).In (W.alloc (.cells #[.int .i64 9, .int .u64 0, .int .u64 0, .int .u64 0, .int .u64 0, .string ByteArray.empty, .slice (some ⟨B, 0, none⟩) 1 1, .int .i64 4, .int .u64 0, .int .u64 0, .int .u64 0, .int .u64 0, .string ⟨#[97]⟩, .slice none 0 0] 43)).heap.size (W.alloc (.cells #[.int .i64 9, .int .u64 0, .int .u64 0, .int .u64 0, .int .u64 0, .string ByteArray.empty, .slice (some ⟨B, 0, none⟩) 1 1, .int .i64 4, .int .u64 0, .int .u64 0, .int .u64 0, .int .u64 0, .string ⟨#[97]⟩, .slice none 0 0] 43)) := by
  refine ⟨hW.alloc hW.size _, ?_⟩
  have h1 : BoxN (W.alloc (.cells #[.int .i64 9, .int .u64 0, .int .u64 0, .int .u64 0, .int .u64 0, .string ByteArray.empty, .slice (some ⟨B, 0, none⟩) 1 1, .int .i64 4, .int .u64 0, .int .u64 0, .int .u64 0, .int .u64 0, .string ⟨#[97]⟩, .slice none 0 0] 43)) W.heap.size 43 ((opx B).cells ++ (exo 4 na none 0 []).cells) := by rw [opt_cells]; exact BoxN.new W 43 _
  exact two_in h1 (ho.grow ((Below.refl W.heap.size W).alloc (Nat.le_refl _) _)) (leaf_in _ _ 4 na (by decide))
theorem first_says {g1 : Gr} {a : Option Addr} {c : Nat} (hg : g1.rules = [(na, eb1 a c)]) {n e : Int} (h : W9 g1 n e) : e = 0 := by
  rcases h with ⟨h0, -⟩ | ⟨-, lf, hN⟩
  · exact absurd (by rw [hg]; exact one_check _ (eb1_check a c) (eb1_refs a c)) h0
  · exact eb1_well g1 lf n e a c hg hN
theorem second_says {g1 : Gr} {a : Option Addr} {c : Nat} {a' : Option Addr} {c' : Nat} (hg : g1.rules = [(na, eb2 a c a' c')]) {n e : Int} (h : W9 g1 n e) : e = 8 := by
  rcases h with ⟨h0, -⟩ | ⟨-, lf, hN⟩
  · exact absurd (by rw [hg]; exact one_check _ (eb2_check a c a' c') (eb2_refs a c a' c')) h0
  · exact eb2_well g1 lf n e a c a' c' hg hN
/-- A rule's cells, one behind the other. -/
def rcsL (l : List (ByteArray × Ex)) : List Value := l.flatMap rcell
theorem rcsL_at : ∀ (l : List (ByteArray × Ex)) (i j : Nat) (x : ByteArray × Ex), l[i]? = some x → j < 8 → (rcsL l)[i * 8 + j]? = (rcell x)[j]?
  | [], i, j, x, h, _ => by simp at h
  | y :: r, 0, j, x, h, hj => by
    simp at h; subst h
    rw [show rcsL (y :: r) = rcell y ++ rcsL r from rfl, Nat.zero_mul, Nat.zero_add, List.getElem?_append_left (by show j < 8; exact hj)]
  | y :: r, i + 1, j, x, h, hj => by
    rw [show rcsL (y :: r) = rcell y ++ rcsL r from rfl, List.getElem?_append_right (by show 8 ≤ _; omega), show (i + 1) * 8 + j - (rcell y).length = i * 8 + j from by show _ - 8 = _; omega]
    exact rcsL_at r i j x (by simpa using h) hj
theorem rcsL_app (l : List (ByteArray × Ex)) (x : ByteArray × Ex) : rcsL (l ++ [x]) = rcsL l ++ rcell x := by simp [rcsL]
theorem rcell_one (x : ByteArray × Ex) : ∀ u ∈ rcell x, u.oneCell' = true := by
  intro u hu
  simp [rcell] at hu
  rcases hu with rfl | rfl | rfl | rfl | rfl | rfl | rfl | rfl <;> rfl
theorem Try.info47 : (Try.prog.info? 47).map (fun i => (i.zero, i.size, i.bytes)) = some (some (.agg #[.string ⟨#[]⟩, .int .i64 0, .int .u64 0, .int .u64 0, .int .u64 0, .int .u64 0, .string ⟨#[]⟩, .slice none 0 0]), 8, 96) := by kernel_rfl
/-- One rule behind a literal: where its two kids lie. -/
structure It (W : World) (N : Nat) (v : Value) (q r : ByteArray × Ex) : Prop where
  at_ : ∃ B, r = (q.1, grd nx (some ⟨B, 0, none⟩) 2 q.2) ∧ BoxN W B 43 ((exo 3 nx none 0 []).cells ++ q.2.cells) ∧ N < B ∧ v.ownBlock ≠ some B
/-- Where the loop that makes the rules stands. -/
structure Wk (W0 wr : World) (N : Nat) (v : Value) (rules l : List (ByteArray × Ex)) (i : Nat) : Prop where
  box : BoxN wr N 24 #[v]
  own : wr.ownsRow (N + 1) 47 8 v l.length (rcsL l)
  low : Below N W0 wr
  len : l.length = i
  its : ∀ (j : Nat) q r, rules[j]? = some q → l[j]? = some r → It wr N v q r
theorem Wk.form {Wk0 wr : World} {N : Nat} {v : Value} {rules l : List (ByteArray × Ex)} {i : Nat} (h : Wk Wk0 wr N v rules l i) : ∃ a c, v = .slice a i c := by
  rcases h.own.2 with ⟨rfl, h0⟩ | ⟨g, cap, cur, rfl, _⟩
  · exact ⟨none, 0, by rw [← h.len, h0]⟩
  · exact ⟨_, _, by rw [h.len]⟩
/-- What stays behind a step that only makes memory. -/
theorem It.below {W W' : World} {N : Nat} {v : Value} {q r : ByteArray × Ex} (h : It W N v q r) (hb : Below W.heap.size W W') : It W' N v q r := by
  obtain ⟨B, h1, h2, h3, h4⟩ := h.at_
  exact ⟨B, h1, h2.below hb h2.lt, h3, h4⟩
theorem Wk.gr {Wk0 wr : World} {N : Nat} {a : Option Addr} {c : Nat} {rules l : List (ByteArray × Ex)} (h : Wk Wk0 wr N (.slice a l.length c) rules l rules.length) (hb : rules.length ≤ 140737488355328) (hi : ∀ r ∈ rules, r.1.size ≤ 140737488355328 ∧ r.2.In wr.heap.size wr) : Gr.In wr.heap.size wr ⟨a, c, l⟩ := by
  have hlen := h.len
  refine ⟨by show l.length ≤ _; omega, fun j r hr => ?_⟩
  have hr' : l[j]? = some r := hr
  have hjl := (List.getElem?_eq_some_iff.1 hr').1
  have hpos : 0 < l.length := by omega
  obtain ⟨g, cap, hv, hg1, hg2⟩ := World.ownsRow.form h.own hpos
  injection hv with e1 _ e3
  subst e1 e3
  obtain ⟨q, hq⟩ : ∃ q, rules[j]? = some q := ⟨_, List.getElem?_eq_getElem (by omega)⟩
  obtain ⟨B, hrr, hB, hNB, -⟩ := (h.its j q r hq hr').at_
  obtain ⟨hq1, hq2⟩ := hi q (List.mem_of_getElem? hq)
  refine ⟨⟨g, 0, rfl, hg2, fun m hm => ?_⟩, by rw [hrr]; exact hq1, ?_⟩
  · obtain ⟨u, hu⟩ : ∃ u, (rcell r)[m]? = some u := ⟨_, List.getElem?_eq_getElem (by show m < 8; exact hm)⟩
    have h1 := rcsL_at l j m r hr' hm
    rw [hu] at h1 ⊢
    have := World.ownsRow.cells h.own (g := g) rfl _ _ h1
    rwa [Addr.add_lit, ← Nat.add_assoc] at this
  · rw [hrr]
    exact two_in hB (leaf_in _ _ 3 nx (by decide)) hq2
theorem Wk.all {Wk0 wr : World} {N : Nat} {v : Value} {rules l : List (ByteArray × Ex)} (h : Wk Wk0 wr N v rules l rules.length) : ∀ r ∈ l, ∃ x a c b, r.2 = grd x a c b := fun r hr => by
  obtain ⟨j, hj⟩ := List.getElem?_of_mem hr
  have hjl := (List.getElem?_eq_some_iff.1 hj).1
  have hlen := h.len
  obtain ⟨q, hq⟩ : ∃ q, rules[j]? = some q := ⟨_, List.getElem?_eq_getElem (by omega)⟩
  obtain ⟨B, rfl, -⟩ := (h.its j q r hq hj).at_
  exact ⟨_, _, _, _, rfl⟩
theorem own_on {w w' : World} {base : Nat} {e : TypeId} {size : Nat} {v : Value} {n : Nat} {xs : List Value} (h : w.ownsRow base e size v n xs) (hb : Below w.heap.size w w') : w'.ownsRow base e size v n xs :=
  h.kept (⟨hb.os, hb.tape, hb.output, hb.size, fun k hk _ => hb.block k hk⟩ : w.grownBy w' none) (by cases hv : v.ownBlock <;> simp)
theorem Wk.below {W0 wr V : World} {N : Nat} {v : Value} {rules l : List (ByteArray × Ex)} {i : Nat} (h : Wk W0 wr N v rules l i) (hb : Below wr.heap.size wr V) : Wk W0 V N v rules l i :=
  ⟨h.box.below hb h.box.lt, own_on h.own hb, h.low.trans (hb.mono (Nat.le_of_lt h.box.lt)), h.len, fun j q r hq hr => (h.its j q r hq hr).below hb⟩
theorem Wk.app {W0 V w8 : World} {N : Nat} {v : Value} {rules l : List (ByteArray × Ex)} {i : Nat} {q : ByteArray × Ex} {B g8 cap : Nat} (h : Wk W0 V N v rules l i) (hq : rules[i]? = some q) (hB : BoxN V B 43 ((exo 3 nx none 0 []).cells ++ q.2.cells)) (hNB : N < B) (hvB : v.ownBlock ≠ some B)
    (hg : V.grownBy w8 v.ownBlock) (hor : v.ownBlock = some g8 ∨ g8 = V.heap.size) (h8 : w8.ownsRow (N + 1) 47 8 (.slice (some ⟨g8, 0, none⟩) (i + 1) cap) (i + 1) (rcsL l ++ rcell (q.1, grd nx (some ⟨B, 0, none⟩) 2 q.2))) :
    Wk W0 (w8.setCell ⟨N, 0, none⟩ (.slice (some ⟨g8, 0, none⟩) (i + 1) cap)) N (.slice (some ⟨g8, 0, none⟩) (i + 1) cap) rules (l ++ [(q.1, grd nx (some ⟨B, 0, none⟩) 2 q.2)]) (i + 1) := by
  have hlen := h.len
  have hNo : some N ≠ v.ownBlock := fun e => by have := World.ownsRow.lt h.own N e.symm; omega
  refine ⟨one_setCell (h.box.kept hg hNo), ?_, ?_, by simp [hlen], fun j q' r hq' hr => ?_⟩
  · rw [rcsL_app, List.length_append, List.length_singleton, hlen]
    exact ownsRow_setCell_below h8 (Nat.lt_succ_self _) _
  · exact (h.low.grown hg (Nat.le_of_lt h.box.lt) (fun z hz => by have := World.ownsRow.lt h.own z hz; omega)).setCell (Nat.le_refl _) _
  · by_cases hji : j = i
    · subst hji
      rw [hq] at hq'
      have e1 : q' = q := (Option.some.inj hq').symm
      subst e1
      rw [List.getElem?_append_right (by omega), hlen, Nat.sub_self] at hr
      have e2 := Option.some.inj hr
      refine ⟨B, e2.symm, (hB.kept hg (fun e => hvB e.symm)).other (fun e => by omega) _, hNB, fun e => ?_⟩
      have e3 : g8 = B := Option.some.inj e
      rcases hor with h5 | h5
      · exact hvB (by rw [h5, e3])
      · have := hB.lt; omega
    · have hjl : j < l.length := by
        have := (List.getElem?_eq_some_iff.1 hr).1
        rw [List.length_append, List.length_singleton] at this
        omega
      rw [List.getElem?_append_left hjl] at hr
      obtain ⟨B', h1, h2, h3, h4⟩ := (h.its j q' r hq' hr).at_
      refine ⟨B', h1, (h2.kept hg (fun e => h4 e.symm)).other (fun e => by omega) _, h3, fun e => ?_⟩
      have e3 : g8 = B' := Option.some.inj e
      rcases hor with h5 | h5
      · exact h4 (by rw [h5, e3])
      · have := h2.lt; omega
/-- What Well says of it. -/
theorem third_says {g : Gr} {n e : Int} (hg : ∀ r ∈ g.rules, ∃ x a c b, r.2 = grd x a c b) (h : W9 g n e) : (gcheck g.rules = 0 ∧ (e = 9 ∨ e = 0)) ∨ (gcheck g.rules ≠ 0 ∧ e = gcheck g.rules ∧ e ≠ 8) := by
  rcases h with ⟨h0, rfl⟩ | ⟨h0, lf, hN⟩
  · exact .inr ⟨h0, rfl, gcodes _⟩
  · exact .inl ⟨h0, grd_well g lf n e hg hN⟩
end Go.Proofs.Ythcnificamidhaa
