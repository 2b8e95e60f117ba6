import Derived.Test.YtokdaapmejccbaaLaw3
import Derived.Test.YtokdaapmejccbaaParts
namespace Go.Proofs.Ytokdaapmejccbaa
open Go.RowKit
set_option linter.unusedVariables false
/-- A grammar, with where its rules lie. -/
structure Gr where
  mk ::
  (a : Option Addr) (c : Nat) (rules : List (ByteArray × Ex))
def Gr.val (g : Gr) : Value := .agg #[.slice g.a g.rules.length g.c]
theorem gval_eq (g : Gr) : g.val = .agg #[.slice g.a g.rules.length g.c] := rfl
/-- A rule's cells. -/
def rcell (r : ByteArray × Ex) : List Value := [.string r.1, .int .i64 r.2.k, .int .u64 (wd r.2.S 0), .int .u64 (wd r.2.S 1), .int .u64 (wd r.2.S 2), .int .u64 (wd r.2.S 3), .string r.2.t, .slice r.2.a r.2.kids.length r.2.c]
theorem rcell_eq (r : ByteArray × Ex) : rcell r = [.string r.1, .int .i64 r.2.k, .int .u64 (wd r.2.S 0), .int .u64 (wd r.2.S 1), .int .u64 (wd r.2.S 2), .int .u64 (wd r.2.S 3), .string r.2.t, .slice r.2.a r.2.kids.length r.2.c] := rfl
structure RuIn (n : Nat) (W : World) (a : Option Addr) (j : Nat) (r : ByteArray × Ex) : Prop where
  lies : ∃ b o, a = some ⟨b, o, none⟩ ∧ b < n ∧ ∀ m, m < 8 → W.cell? ⟨b, o + j * 8 + m, none⟩ = (rcell r)[m]?
  name : r.1.size ≤ 140737488355328
  body : r.2.In n W
/-- Its parts lie in blocks below n. -/
structure Gr.In (n : Nat) (W : World) (g : Gr) : Prop where
  len : g.rules.length ≤ 140737488355328
  rule : ∀ j r, g.rules[j]? = some r → RuIn n W g.a j r
theorem Gr.In.below {n : Nat} {A B : World} {g : Gr} (hb : Below n A B) (h : g.In n A) : g.In n B :=
  ⟨h.len, fun j r hr => by
    obtain ⟨⟨b, o, ha, hlt, hc⟩, h1, h2⟩ := h.rule j r hr
    exact ⟨⟨b, o, ha, hlt, fun m hm => (hb.cell (p := ⟨b, o + j * 8 + m, none⟩) hlt).trans (hc m hm)⟩, h1, h2.below hb⟩⟩
theorem Gr.In.mono {n m : Nat} {A : World} {g : Gr} (hm : n ≤ m) (h : g.In n A) : g.In m A :=
  ⟨h.len, fun j r hr => by
    obtain ⟨⟨b, o, ha, hlt, hc⟩, h1, h2⟩ := h.rule j r hr
    exact ⟨⟨b, o, ha, Nat.lt_of_lt_of_le hlt hm, hc⟩, h1, h2.mono hm⟩⟩
theorem Gr.In.grow {A B : World} {g : Gr} (h : g.In A.heap.size A) (hb : Below A.heap.size A B) : g.In B.heap.size B := (h.below hb).mono hb.size
/-- The first rule of a name. -/
def fndF : Nat → List (ByteArray × Ex) → ByteArray → Int
  | _, [], _ => -1
  | i, r :: l, s => if r.1 = s then (i : Int) else fndF (i + 1) l s
def fnd (l : List (ByteArray × Ex)) (s : ByteArray) : Int := fndF 0 l s
theorem drop_at {α : Type} (l : List α) (i : Nat) (x : α) (h : l[i]? = some x) : l.drop i = x :: l.drop (i + 1) := by
  obtain ⟨h1, h2⟩ := List.getElem?_eq_some_iff.1 h
  rw [List.drop_eq_getElem_cons h1, h2]
/-- What is said of a rule's cells, each by itself. -/
theorem rcells {n : Nat} {W : World} {a : Option Addr} {j : Nat} {r : ByteArray × Ex} (h : RuIn n W a j r) : ∃ b o, a = some ⟨b, o, none⟩ ∧ b < n ∧ W.cell? ⟨b, o + j * 8, none⟩ = some (.string r.1) ∧ W.cell? ⟨b, o + j * 8 + 1, none⟩ = some (.int .i64 r.2.k)
    ∧ W.cell? ⟨b, o + j * 8 + 2, none⟩ = some (.int .u64 (wd r.2.S 0)) ∧ W.cell? ⟨b, o + j * 8 + 3, none⟩ = some (.int .u64 (wd r.2.S 1)) ∧ W.cell? ⟨b, o + j * 8 + 4, none⟩ = some (.int .u64 (wd r.2.S 2)) ∧ W.cell? ⟨b, o + j * 8 + 5, none⟩ = some (.int .u64 (wd r.2.S 3))
    ∧ W.cell? ⟨b, o + j * 8 + 6, none⟩ = some (.string r.2.t) ∧ W.cell? ⟨b, o + j * 8 + 7, none⟩ = some (.slice r.2.a r.2.kids.length r.2.c) := by
  obtain ⟨b, o, ha, hb, hc⟩ := h.lies
  exact ⟨b, o, ha, hb, hc 0 (by omega), hc 1 (by omega), hc 2 (by omega), hc 3 (by omega), hc 4 (by omega), hc 5 (by omega), hc 6 (by omega), hc 7 (by omega)⟩
end Go.Proofs.Ytokdaapmejccbaa
