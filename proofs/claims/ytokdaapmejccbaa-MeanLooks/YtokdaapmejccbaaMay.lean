import Derived.Test.YtokdaapmejccbaaRch
import Derived.Test.YtokdaapmejccbaaLst
namespace Go.Proofs.Ytokdaapmejccbaa
open Go.RowKit
set_option linter.unusedVariables false
/-- What may be done: be empty, eat, fail. -/
abbrev Fa := Bool × Bool × Bool
def fcs (f : Fa) : Array Value := #[.bool f.1, .bool f.2.1, .bool f.2.2]
def fval (f : Fa) : Value := .agg (fcs f)
theorem fval_eq (a b c : Bool) : fval (a, b, c) = .agg #[.bool a, .bool b, .bool c] := rfl
theorem fcs_eq (a b c : Bool) : fcs (a, b, c) = #[.bool a, .bool b, .bool c] := rfl
def noF : Fa := (false, false, false)
def sucF (f : Fa) : Bool := f.1 || f.2.1
def thenF (a b : Fa) : Fa := (a.1 && b.1, (a.2.1 && sucF b || b.2.1 && sucF a), (a.2.2 || sucF a && b.2.2))
def orF (a b : Fa) : Fa := ((a.1 || a.2.2 && b.1), (a.2.1 || a.2.2 && b.2.1), (a.2.2 && b.2.2))
def againF (f : Fa) : Fa := (f.2.2, f.2.1, false)
def foldF (two : Fa → Fa → Fa) : List Fa → Fa
  | [] => noF
  | a :: l => if l = [] then a else two a (foldF two l)
/-- What a kind does with what its kids may. -/
def mayK (k : Int) (l : List Fa) : Fa :=
  if k = 5 then foldF thenF l else if k = 6 then foldF orF l
  else if k = 7 then againF (l.headD noF) else if k = 8 then thenF (l.headD noF) (againF (l.headD noF)) else if k = 9 then orF (l.headD noF) (true, false, false)
  else if k = 10 then (sucF (l.headD noF), false, (l.headD noF).2.2) else if k = 11 then ((l.headD noF).2.2, false, sucF (l.headD noF)) else noF
def Ex.may (R : ByteArray → Fa) : Ex → Fa
  | .mk k S t a c kids => if k = 1 then (true, false, false) else if k = 2 then (false, !noS S, true) else if k = 3 then (false, true, true) else if k = 4 then R t else mayK k (mayL R kids)
  where
  mayL (R : ByteArray → Fa) : List Ex → List Fa
    | [] => []
    | e :: r => Ex.may R e :: mayL R r
open Ex.may (mayL)
theorem may_eq (R : ByteArray → Fa) (e : Ex) : e.may R = if e.k = 1 then (true, false, false) else if e.k = 2 then (false, !noS e.S, true) else if e.k = 3 then (false, true, true) else if e.k = 4 then R e.t else mayK e.k (mayL R e.kids) := by
  cases e with
  | mk k S t a c kids => rw [Ex.may]; rfl
theorem mayL_map (R : ByteArray → Fa) : ∀ l : List Ex, mayL R l = l.map (Ex.may R)
  | [] => by rw [mayL]; rfl
  | e :: r => by rw [mayL, mayL_map R r]; rfl
/-- Well. -/
def Ex.iw (mb : Ex → Bool) (R : ByteArray → Bool) : Ex → Bool
  | .mk k S t a c kids => if k = 4 then R t else iwL mb R (decide (k = 5)) kids
  where
  iwL (mb : Ex → Bool) (R : ByteArray → Bool) (sq : Bool) : List Ex → Bool
    | [] => true
    | e :: r => if Ex.iw mb R e = false then false else if sq && !mb e then true else iwL mb R sq r
open Ex.iw (iwL)
theorem iw_eq (mb : Ex → Bool) (R : ByteArray → Bool) (e : Ex) : e.iw mb R = if e.k = 4 then R e.t else iwL mb R (decide (e.k = 5)) e.kids := by
  cases e with
  | mk k S t a c kids => rw [Ex.iw]; rfl
/-- Again and again what may be empty. -/
def Ex.lp (mb : Ex → Bool) : Ex → Bool
  | .mk k S t a c kids => lpL mb (decide (k = 7) || decide (k = 8)) kids
  where
  lpL (mb : Ex → Bool) (rep : Bool) : List Ex → Bool
    | [] => false
    | e :: r => (rep && mb e || Ex.lp mb e) || lpL mb rep r
open Ex.lp (lpL)
theorem lp_eq (mb : Ex → Bool) (e : Ex) : e.lp mb = lpL mb (decide (e.k = 7) || decide (e.k = 8)) e.kids := by
  cases e with
  | mk k S t a c kids => rw [Ex.lp]; rfl
/-- What is needed. -/
def Ex.nd (mb : Ex → Bool) (all : List (ByteArray × Ex)) : Ex → List Int
  | .mk k S t a c kids => if k = 4 then [fnd all t] else ndL mb all (decide (k = 5)) kids
  where
  ndL (mb : Ex → Bool) (all : List (ByteArray × Ex)) (sq : Bool) : List Ex → List Int
    | [] => []
    | e :: r => Ex.nd mb all e ++ (if sq && !mb e then [] else ndL mb all sq r)
open Ex.nd (ndL)
theorem nd_eq (mb : Ex → Bool) (all : List (ByteArray × Ex)) (e : Ex) : e.nd mb all = if e.k = 4 then [fnd all e.t] else ndL mb all (decide (e.k = 5)) e.kids := by
  cases e with
  | mk k S t a c kids => rw [Ex.nd]; rfl
theorem iw_nd (mb : Ex → Bool) (all : List (ByteArray × Ex)) (b : Int → Bool) : ∀ e : Ex, e.iw mb (fun s => b (fnd all s)) = (e.nd mb all).all b
  | .mk k S t a c kids => by
    rw [Ex.iw, Ex.nd]
    by_cases h : k = 4
    · rw [if_pos h, if_pos h]; simp
    · rw [if_neg h, if_neg h]; exact go mb all b (decide (k = 5)) kids
  where
  go (mb : Ex → Bool) (all : List (ByteArray × Ex)) (b : Int → Bool) (sq : Bool) : ∀ l : List Ex, iwL mb (fun s => b (fnd all s)) sq l = (ndL mb all sq l).all b
    | [] => by rw [iwL, ndL]; rfl
    | e :: r => by
      rw [iwL, ndL, List.all_append, ← iw_nd mb all b e]
      cases h1 : e.iw mb (fun s => b (fnd all s))
      · simp
      · cases h2 : (sq && !mb e)
        · simp [go mb all b sq r]
        · simp
/-- All its parts have their form, and name what P says. -/
def Ex.Ok (P : ByteArray → Prop) : Ex → Prop
  | .mk k S t a c kids => formOk (.mk k S t a c kids) = true ∧ (k = 4 → P t) ∧ OkL P kids
  where
  OkL (P : ByteArray → Prop) : List Ex → Prop
    | [] => True
    | e :: r => Ex.Ok P e ∧ OkL P r
open Ex.Ok (OkL)
theorem ok_eq (P : ByteArray → Prop) (e : Ex) : e.Ok P ↔ (formOk e = true ∧ (e.k = 4 → P e.t) ∧ OkL P e.kids) := by
  cases e with
  | mk k S t a c kids => rw [Ex.Ok]; exact Iff.rfl
theorem okL_mem {P : ByteArray → Prop} : ∀ (l : List Ex) (x : Ex), OkL P l → x ∈ l → x.Ok P
  | e :: r, x, h, hx => by
    rw [OkL] at h
    rcases List.mem_cons.1 hx with rfl | hx
    · exact h.1
    · exact okL_mem r x h.2 hx
theorem Ex.Ok.kid {P : ByteArray → Prop} {e x : Ex} (h : e.Ok P) (hx : x ∈ e.kids) : x.Ok P := okL_mem _ _ ((ok_eq P e).1 h).2.2 hx
theorem ok_of {P : ByteArray → Prop} : ∀ (e : Ex) (d : Int), (∀ x ∈ e.nodes d, formOk x.2 = true ∧ (x.2.k = 4 → P x.2.t)) → e.Ok P
  | .mk k S t a c kids, d, h => by
    rw [Ex.Ok]
    rw [nodes_eq] at h
    have h0 := h _ (List.mem_cons_self ..)
    exact ⟨h0.1, h0.2, go kids (wrap64 (d + 1)) fun x hx => h x (List.mem_cons_of_mem _ hx)⟩
  where
  go {P : ByteArray → Prop} : ∀ (l : List Ex) (d : Int), (∀ x ∈ Ex.nodes.nodesL d l, formOk x.2 = true ∧ (x.2.k = 4 → P x.2.t)) → OkL P l
    | [], _, _ => by rw [OkL]; trivial
    | e :: r, d, h => by
      rw [OkL]
      rw [Ex.nodes.nodesL] at h
      exact ⟨ok_of e d fun x hx => h x (List.mem_append_left _ hx), go r d fun x hx => h x (List.mem_append_right _ hx)⟩
theorem refsOf_mem : ∀ (l : List (Int × Ex)) (acc : List ByteArray) (s : ByteArray), (s ∈ acc ∨ ∃ x ∈ l, x.2.k = 4 ∧ x.2.t = s) → s ∈ l.foldl refStep acc
  | [], acc, s, h => by rcases h with h | ⟨x, hx, _⟩; exact h; cases hx
  | y :: l, acc, s, h => by
    rw [List.foldl_cons]
    refine refsOf_mem l _ s ?_
    have hstep : ∀ u, u ∈ acc → u ∈ refStep acc y := fun u hu => by unfold refStep; split; exact List.mem_append_left _ hu; exact hu
    rcases h with h | ⟨x, hx, hk, ht⟩
    · exact .inl (hstep s h)
    · rcases List.mem_cons.1 hx with rfl | hx
      · left
        unfold refStep
        by_cases hc : Lib.containsS acc x.2.t = false
        · rw [if_pos ⟨hk, hc⟩, ← ht]; simp
        · rw [if_neg (fun k => hc k.2)]
          have : Lib.containsS acc x.2.t = true := by simpa using hc
          rw [← ht]
          unfold Lib.containsS at this
          exact (Lib.idxOfS_nonneg_iff _ _).1 (by simpa using this)
      · exact .inr ⟨x, hx, hk, ht⟩
end Go.Proofs.Ytokdaapmejccbaa
