import Derived.Test.YtokdaapmejccbaaXPeg
import Derived.Test.YtokdaapmejccbaaXMayW
import Derived.Deep.LoopGhost
import Derived.WalkKit
import Derived.Below
import Derived.Deep.QuietTactic
import Derived.BigQuiet
import Derived.BigRegion
namespace Go.Proofs.Ytokdaapmejccbaa
open Go.RowKit
set_option linter.unusedVariables false
/-! What is tried, kind by kind. -/
theorem seqE_acc (F : Ex → Nat → Rt) : ∀ (l : List Ex) (p n : Nat), seqE F l p n = (seqE F l p 0).map fun x => (x.1, n + x.2)
  | [], p, n => by simp [seqE]
  | e :: l, p, n => by
    rw [seqE, seqE]
    cases F e p with
    | none => rfl
    | some x =>
      obtain ⟨o, k⟩ := x
      cases o with
      | none => simp
      | some q =>
        simp only
        rw [seqE_acc F l q (n + k), seqE_acc F l q (0 + k), Option.map_map]
        congr 1
        funext x
        simp only [Function.comp, Prod.mk.injEq, true_and]
        omega
theorem altE_acc (F : Ex → Nat → Rt) : ∀ (l : List Ex) (p n : Nat), altE F l p n = (altE F l p 0).map fun x => (x.1, n + x.2)
  | [], p, n => by simp [altE]
  | e :: l, p, n => by
    rw [altE, altE]
    cases F e p with
    | none => rfl
    | some x =>
      obtain ⟨o, k⟩ := x
      cases o with
      | some q => simp
      | none =>
        simp only
        rw [altE_acc F l p (n + k), altE_acc F l p (0 + k), Option.map_map]
        congr 1
        funext x
        simp only [Function.comp, Prod.mk.injEq, true_and]
        omega
theorem starE_acc (F : Ex → Nat → Rt) (e : Ex) : ∀ (m p n : Nat), starE F e m p n = (starE F e m p 0).map fun x => (x.1, n + x.2)
  | 0, p, n => rfl
  | m + 1, p, n => by
    rw [starE, starE]
    cases F e p with
    | none => rfl
    | some x =>
      obtain ⟨o, k⟩ := x
      cases o with
      | none => simp
      | some q =>
        simp only
        rw [starE_acc F e m q (n + k), starE_acc F e m q (0 + k), Option.map_map]
        congr 1
        funext x
        simp only [Function.comp, Prod.mk.injEq, true_and]
        omega
def Seqs (g : Gr) (s : List UInt8) (l : List Ex) (p : Nat) (o : Ot) (n : Nat) : Prop := ∃ f, seqE (ev g s f) l p 0 = some (o, n)
def Alts (g : Gr) (s : List UInt8) (l : List Ex) (p : Nat) (o : Ot) (n : Nat) : Prop := ∃ f, altE (ev g s f) l p 0 = some (o, n)
def Stars (g : Gr) (s : List UInt8) (e : Ex) (p : Nat) (o : Ot) (n : Nat) : Prop := ∃ f m, starE (ev g s f) e m p 0 = some (o, n)
section
variable {g : Gr} {s : List UInt8}
theorem seqs_nil {p : Nat} {o : Ot} {n : Nat} : Seqs g s [] p o n ↔ o = some p ∧ n = 0 := by
  constructor
  · rintro ⟨f, h⟩
    rw [seqE] at h
    simp only [Option.some.injEq, Prod.mk.injEq] at h
    exact ⟨h.1.symm, h.2.symm⟩
  · rintro ⟨rfl, rfl⟩
    exact ⟨0, rfl⟩
theorem seqs_cons {e : Ex} {l : List Ex} {p : Nat} {o : Ot} {n : Nat} : Seqs g s (e :: l) p o n ↔ (Evs g s e p none n ∧ o = none) ∨ ∃ q k m, Evs g s e p (some q) k ∧ Seqs g s l q o m ∧ n = k + m := by
  constructor
  · rintro ⟨f, h⟩
    rw [seqE] at h
    cases hF : ev g s f e p with
    | none => rw [hF] at h; cases h
    | some x =>
      obtain ⟨o1, k⟩ := x
      rw [hF] at h
      cases o1 with
      | none =>
        simp only [Option.some.injEq, Prod.mk.injEq] at h
        obtain ⟨rfl, h2⟩ := h
        exact .inl ⟨⟨f, by rw [hF, ← h2]; simp⟩, rfl⟩
      | some q =>
        simp only at h
        rw [seqE_acc] at h
        simp only [Option.map_eq_some_iff, Prod.mk.injEq] at h
        obtain ⟨⟨o2, m⟩, h1, rfl, h3⟩ := h
        exact .inr ⟨q, k, m, ⟨f, hF⟩, ⟨f, h1⟩, by simp only at h3; omega⟩
  · rintro (⟨⟨f, hf⟩, rfl⟩ | ⟨q, k, m, ⟨f, hf⟩, ⟨f', hf'⟩, rfl⟩)
    · exact ⟨f, by rw [seqE, hf]; simp⟩
    · refine ⟨max f f', ?_⟩
      rw [seqE, ev_le g s (Nat.le_max_left f f') e p _ hf]
      simp only
      rw [seqE_acc, seqE_le (ev_le g s (Nat.le_max_right f f')) l q 0 _ hf']
      simp
theorem alts_nil {p : Nat} {o : Ot} {n : Nat} : Alts g s [] p o n ↔ o = none ∧ n = 0 := by
  constructor
  · rintro ⟨f, h⟩
    rw [altE] at h
    simp only [Option.some.injEq, Prod.mk.injEq] at h
    exact ⟨h.1.symm, h.2.symm⟩
  · rintro ⟨rfl, rfl⟩
    exact ⟨0, rfl⟩
theorem alts_cons {e : Ex} {l : List Ex} {p : Nat} {o : Ot} {n : Nat} : Alts g s (e :: l) p o n ↔ (∃ q, Evs g s e p (some q) n ∧ o = some q) ∨ ∃ k m, Evs g s e p none k ∧ Alts g s l p o m ∧ n = k + m := by
  constructor
  · rintro ⟨f, h⟩
    rw [altE] at h
    cases hF : ev g s f e p with
    | none => rw [hF] at h; cases h
    | some x =>
      obtain ⟨o1, k⟩ := x
      rw [hF] at h
      cases o1 with
      | some q =>
        simp only [Option.some.injEq, Prod.mk.injEq] at h
        obtain ⟨rfl, h2⟩ := h
        exact .inl ⟨q, ⟨f, by rw [hF, ← h2]; simp⟩, rfl⟩
      | none =>
        simp only at h
        rw [altE_acc] at h
        simp only [Option.map_eq_some_iff, Prod.mk.injEq] at h
        obtain ⟨⟨o2, m⟩, h1, rfl, h3⟩ := h
        exact .inr ⟨k, m, ⟨f, hF⟩, ⟨f, h1⟩, by simp only at h3; omega⟩
  · rintro (⟨q, ⟨f, hf⟩, rfl⟩ | ⟨k, m, ⟨f, hf⟩, ⟨f', hf'⟩, rfl⟩)
    · exact ⟨f, by rw [altE, hf]; simp⟩
    · refine ⟨max f f', ?_⟩
      rw [altE, ev_le g s (Nat.le_max_left f f') e p _ hf]
      simp only
      rw [altE_acc, altE_le (ev_le g s (Nat.le_max_right f f')) l p 0 _ hf']
      simp
theorem stars_iff {e : Ex} {p : Nat} {o : Ot} {n : Nat} : Stars g s e p o n ↔ (Evs g s e p none n ∧ o = some p) ∨ ∃ q k m, Evs g s e p (some q) k ∧ Stars g s e q o m ∧ n = k + m := by
  constructor
  · rintro ⟨f, m0, h⟩
    cases m0 with
    | zero => cases h
    | succ m0 =>
      rw [starE] at h
      cases hF : ev g s f e p with
      | none => rw [hF] at h; cases h
      | some x =>
        obtain ⟨o1, k⟩ := x
        rw [hF] at h
        cases o1 with
        | none =>
          simp only [Option.some.injEq, Prod.mk.injEq] at h
          obtain ⟨rfl, h2⟩ := h
          exact .inl ⟨⟨f, by rw [hF, ← h2]; simp⟩, rfl⟩
        | some q =>
          simp only at h
          rw [starE_acc] at h
          simp only [Option.map_eq_some_iff, Prod.mk.injEq] at h
          obtain ⟨⟨o2, m⟩, h1, rfl, h3⟩ := h
          exact .inr ⟨q, k, m, ⟨f, hF⟩, ⟨f, m0, h1⟩, by simp only at h3; omega⟩
  · rintro (⟨⟨f, hf⟩, rfl⟩ | ⟨q, k, m, ⟨f, hf⟩, ⟨f', m', hf'⟩, rfl⟩)
    · exact ⟨f, 1, by rw [starE, hf]; simp⟩
    · refine ⟨max f f', m' + 1, ?_⟩
      rw [starE, ev_le g s (Nat.le_max_left f f') e p _ hf]
      simp only
      rw [starE_acc, starE_le (ev_le g s (Nat.le_max_right f f')) e m' m' q 0 _ (Nat.le_refl _) hf']
      simp
theorem evs_leaf {e : Ex} (h : e.k = 1 ∨ e.k = 2 ∨ e.k = 3) {p : Nat} {o : Ot} {n : Nat} : Evs g s e p o n ↔ o = leafE s e p ∧ n = 1 := by
  constructor
  · rintro ⟨f, hf⟩
    cases f with
    | zero => cases hf
    | succ f =>
      rw [ev, if_pos h] at hf
      simp only [Option.some.injEq, Prod.mk.injEq] at hf
      exact ⟨hf.1.symm, hf.2.symm⟩
  · rintro ⟨rfl, rfl⟩
    exact ⟨1, by rw [ev, if_pos h]⟩
theorem evs_ref {e b : Ex} (h : e.k = 4) (hb : bodyOf g e.t = some b) {p : Nat} {o : Ot} {n : Nat} : Evs g s e p o n ↔ ∃ m, Evs g s b p o m ∧ n = m + 1 := by
  constructor
  · rintro ⟨f, hf⟩
    cases f with
    | zero => cases hf
    | succ f =>
      rw [ev, if_neg (by omega), if_pos h, hb] at hf
      simp only [Option.map_eq_some_iff, Prod.mk.injEq] at hf
      obtain ⟨⟨o2, m⟩, h1, rfl, h3⟩ := hf
      exact ⟨m, ⟨f, h1⟩, h3.symm⟩
  · rintro ⟨m, ⟨f, hf⟩, rfl⟩
    exact ⟨f + 1, by rw [ev, if_neg (by omega), if_pos h, hb]; simp only [hf]; rfl⟩
theorem evs_seq {e : Ex} (h : e.k = 5) {p : Nat} {o : Ot} {n : Nat} : Evs g s e p o n ↔ ∃ m, Seqs g s e.kids p o m ∧ n = 1 + m := by
  constructor
  · rintro ⟨f, hf⟩
    cases f with
    | zero => cases hf
    | succ f =>
      rw [ev, if_neg (by omega), if_neg (by omega), if_pos h, seqE_acc] at hf
      simp only [Option.map_eq_some_iff, Prod.mk.injEq] at hf
      obtain ⟨⟨o2, m⟩, h1, rfl, h3⟩ := hf
      exact ⟨m, ⟨f, h1⟩, h3.symm⟩
  · rintro ⟨m, ⟨f, hf⟩, rfl⟩
    exact ⟨f + 1, by rw [ev, if_neg (by omega), if_neg (by omega), if_pos h, seqE_acc, hf]; rfl⟩
theorem evs_alt {e : Ex} (h : e.k = 6) {p : Nat} {o : Ot} {n : Nat} : Evs g s e p o n ↔ ∃ m, Alts g s e.kids p o m ∧ n = 1 + m := by
  constructor
  · rintro ⟨f, hf⟩
    cases f with
    | zero => cases hf
    | succ f =>
      rw [ev, if_neg (by omega), if_neg (by omega), if_neg (by omega), if_pos h, altE_acc] at hf
      simp only [Option.map_eq_some_iff, Prod.mk.injEq] at hf
      obtain ⟨⟨o2, m⟩, h1, rfl, h3⟩ := hf
      exact ⟨m, ⟨f, h1⟩, h3.symm⟩
  · rintro ⟨m, ⟨f, hf⟩, rfl⟩
    exact ⟨f + 1, by rw [ev, if_neg (by omega), if_neg (by omega), if_neg (by omega), if_pos h, altE_acc, hf]; rfl⟩
theorem evs_star {e x : Ex} (h : e.k = 7) (hx : e.kids = [x]) {p : Nat} {o : Ot} {n : Nat} : Evs g s e p o n ↔ ∃ m, Stars g s x p o m ∧ n = 1 + m := by
  constructor
  · rintro ⟨f, hf⟩
    cases f with
    | zero => cases hf
    | succ f =>
      rw [ev, if_neg (by omega), if_neg (by omega), if_neg (by omega), if_neg (by omega), hx] at hf
      simp only [if_pos h] at hf
      rw [starE_acc] at hf
      simp only [Option.map_eq_some_iff, Prod.mk.injEq] at hf
      obtain ⟨⟨o2, m⟩, h1, rfl, h3⟩ := hf
      exact ⟨m, ⟨f, f, h1⟩, h3.symm⟩
  · rintro ⟨m, ⟨f, m0, hf⟩, rfl⟩
    refine ⟨max f m0 + 1, ?_⟩
    rw [ev, if_neg (by omega), if_neg (by omega), if_neg (by omega), if_neg (by omega), hx]
    simp only [if_pos h]
    rw [starE_acc, starE_le (ev_le g s (Nat.le_max_left f m0)) x m0 _ p 0 _ (Nat.le_max_right f m0) hf]
    rfl
theorem evs_plus {e x : Ex} (h : e.k = 8) (hx : e.kids = [x]) {p : Nat} {o : Ot} {n : Nat} : Evs g s e p o n ↔ (∃ m, Evs g s x p none m ∧ o = none ∧ n = 1 + m) ∨ ∃ q k m, Evs g s x p (some q) k ∧ Stars g s x q o m ∧ n = 1 + k + m := by
  constructor
  · rintro ⟨f, hf⟩
    cases f with
    | zero => cases hf
    | succ f =>
      rw [ev, if_neg (by omega), if_neg (by omega), if_neg (by omega), if_neg (by omega), hx] at hf
      simp only [if_neg (show ¬ e.k = 7 by omega)] at hf
      cases hF : ev g s f x p with
      | none => rw [hF] at hf; cases hf
      | some y =>
        obtain ⟨o1, k⟩ := y
        rw [hF] at hf
        simp only [if_pos h] at hf
        cases o1 with
        | none =>
          simp only [Option.some.injEq, Prod.mk.injEq] at hf
          exact .inl ⟨k, ⟨f, hF⟩, hf.1.symm, hf.2.symm⟩
        | some q =>
          simp only at hf
          rw [starE_acc] at hf
          simp only [Option.map_eq_some_iff, Prod.mk.injEq] at hf
          obtain ⟨⟨o2, m⟩, h1, rfl, h3⟩ := hf
          exact .inr ⟨q, k, m, ⟨f, hF⟩, ⟨f, f, h1⟩, h3.symm⟩
  · rintro (⟨m, ⟨f, hf⟩, rfl, rfl⟩ | ⟨q, k, m, ⟨f, hf⟩, ⟨f', m0, hf'⟩, rfl⟩)
    · refine ⟨f + 1, ?_⟩
      rw [ev, if_neg (by omega), if_neg (by omega), if_neg (by omega), if_neg (by omega), hx]
      simp only [if_neg (show ¬ e.k = 7 by omega)]
      rw [hf]
      simp only [if_pos h]
    · refine ⟨max f (max f' m0) + 1, ?_⟩
      rw [ev, if_neg (by omega), if_neg (by omega), if_neg (by omega), if_neg (by omega), hx]
      simp only [if_neg (show ¬ e.k = 7 by omega)]
      rw [ev_le g s (Nat.le_max_left f (max f' m0)) x p _ hf]
      simp only [if_pos h]
      rw [starE_acc, starE_le (ev_le g s (Nat.le_trans (Nat.le_max_left f' m0) (Nat.le_max_right f (max f' m0)))) x m0 _ q 0 _ (Nat.le_trans (Nat.le_max_right f' m0) (Nat.le_max_right f (max f' m0))) hf']
      rfl
theorem evs_look {e x : Ex} (h : e.k = 9 ∨ e.k = 10 ∨ e.k = 11) (hx : e.kids = [x]) {p : Nat} {o : Ot} {n : Nat} : Evs g s e p o n ↔ ∃ o1 m, Evs g s x p o1 m ∧ o = lookE e.k p o1 ∧ n = 1 + m := by
  constructor
  · rintro ⟨f, hf⟩
    cases f with
    | zero => cases hf
    | succ f =>
      rw [ev, if_neg (by omega), if_neg (by omega), if_neg (by omega), if_neg (by omega), hx] at hf
      simp only [if_neg (show ¬ e.k = 7 by omega)] at hf
      cases hF : ev g s f x p with
      | none => rw [hF] at hf; cases hf
      | some y =>
        obtain ⟨o1, k⟩ := y
        rw [hF] at hf
        simp only [if_neg (show ¬ e.k = 8 by omega), Option.some.injEq, Prod.mk.injEq] at hf
        exact ⟨o1, k, ⟨f, hF⟩, hf.1.symm, hf.2.symm⟩
  · rintro ⟨o1, m, ⟨f, hf⟩, rfl, rfl⟩
    refine ⟨f + 1, ?_⟩
    rw [ev, if_neg (by omega), if_neg (by omega), if_neg (by omega), if_neg (by omega), hx]
    simp only [if_neg (show ¬ e.k = 7 by omega)]
    rw [hf]
    simp only [if_neg (show ¬ e.k = 8 by omega)]
end
end Go.Proofs.Ytokdaapmejccbaa
namespace Go.Proofs.Ytokdaapmejccbaa
open Go.RowKit
set_option linter.unusedVariables false
set_option linter.unusedSimpArgs false
theorem body_ok {g : Gr} (hok : GOk g.rules) {i : Nat} {r : ByteArray × Ex} (hr : g.rules[i]? = some r) : r.2.Ok (IsRule g) := by
  have h0 := (ruleChk_zero (hok.rules i r hr)).2.2
  refine ok_of r.2 1 fun x hx => ⟨((check_zero r.2).1 h0).2 x hx |>.2, fun hk => ?_⟩
  obtain ⟨k, hk1, hk2⟩ := hok.names i r hr (fnd g.rules x.2.t) (by
    unfold insR refsR
    rw [if_pos h0]
    refine List.mem_map.2 ⟨x.2.t, ?_, rfl⟩
    exact refsOf_mem _ _ _ (.inr ⟨x, hx, hk, rfl⟩))
  exact ⟨k, hk1, hk2⟩
set_option maxRecDepth 20000 in
set_option maxHeartbeats 4000000 in
theorem byName_any (g : Gr) (ka : Option Addr) (kn kc : Nat) (w : World) : Calls Try.prog 52 #[.agg #[.slice g.a g.rules.length g.c], .slice ka kn kc] w fun r W' => r = .returned (ofv (w.heap.size + 1) w.heap.size) ∧ W' = (w.alloc (.cells #[.slice g.a g.rules.length g.c] 24)).alloc (.cells #[.slice ka kn kc] 48) := by
  have hmf : ∀ (fn : Fn) (first cap : Array Value) (w : World), (Instr.makeFunc fn first cap).run Try.prog w = .ok (.func fn first cap) w := fun _ _ _ _ => rfl
  unfold ofv
  go_enter Try.func52, Try.ntmps52
  go_wp2_with fail
  go_ret
  exact ⟨rfl, rfl⟩
set_option maxRecDepth 20000 in
theorem eq_fa3 (a b c d e f : Bool) (w : World) : Sem.run Try.prog (Op.equalIn 10000 61 (.agg #[.bool a, .bool b, .bool c]) (.agg #[.bool d, .bool e, .bool f])) w = .ok (a == d && (b == e && c == f)) w := by
  cases a <;> cases b <;> cases c <;> cases d <;> cases e <;> cases f <;> rfl
/-- What grow keeps. -/
structure Gs (w : World) (g : Gr) (l : List Fa) (W : World) : Prop where
  bel : Below w.heap.size w W
  b0 : BoxN W w.heap.size 24 #[.slice g.a g.rules.length g.c]
  x : Fx W (w.heap.size + 1) l
  bg : BoxN W (w.heap.size + 1 + 1) 24 #[.slice g.a g.rules.length g.c]
  bk : BoxN W (w.heap.size + 1 + 1 + 1) 48 #[.slice (some ⟨w.heap.size + 1, 0, none⟩) g.rules.length g.rules.length]
theorem Gs.step {w : World} {g : Gr} {l : List Fa} {W W' : World} (h : Gs w g l W) (hb : Below W.heap.size W W') : Gs w g l W' :=
  ⟨h.bel.trans (hb.mono h.bel.size), h.b0.below hb h.b0.lt, h.x.below hb h.x.lt, h.bg.below hb h.bg.lt, h.bk.below hb h.bk.lt⟩
theorem Gs.kn {w : World} {g : Gr} {l : List Fa} {W : World} (h : Gs w g l W) (hin : g.In w.heap.size w) (hl : l.length = g.rules.length) : Kn (w.heap.size + 1 + 1 + 1 + 1) W g l (w.heap.size + 1 + 1 + 1) (w.heap.size + 1 + 1) (w.heap.size + 1) :=
  ⟨by omega, by omega, by omega, by have := h.bk.lt; omega, hl, h.bk, h.bg, h.x.fat, (hin.below h.bel).mono (by omega)⟩
theorem Gs.set {w : World} {g : Gr} {l : List Fa} {W : World} (h : Gs w g l W) {i : Nat} (hi : i < l.length) (f : Fa) :
    Gs w g (l.set i f) (((W.setCell ⟨w.heap.size + 1, i * 3, none⟩ (.bool f.1)).setCell ⟨w.heap.size + 1, i * 3 + 1, none⟩ (.bool f.2.1)).setCell ⟨w.heap.size + 1, i * 3 + 2, none⟩ (.bool f.2.2)) := by
  have kb : ∀ (W : World) (o : Nat) (v : Value) (B : Nat) (t : TypeId) (cs : Array Value), B ≠ w.heap.size + 1 → BoxN W B t cs → BoxN (W.setCell ⟨w.heap.size + 1, o, none⟩ v) B t cs := fun W o v B t cs hne hb => hb.kept (Go.Lib.grownBy_setCell _ _ _ _) (fun e => hne (Option.some.inj e))
  exact ⟨((h.bel.setCell (by simp) _).setCell (by simp) _).setCell (by simp) _, kb _ _ _ _ _ _ (by omega) (kb _ _ _ _ _ _ (by omega) (kb _ _ _ _ _ _ (by omega) h.b0)), h.x.set hi f, kb _ _ _ _ _ _ (by omega) (kb _ _ _ _ _ _ (by omega) (kb _ _ _ _ _ _ (by omega) h.bg)), kb _ _ _ _ _ _ (by omega) (kb _ _ _ _ _ _ (by omega) (kb _ _ _ _ _ _ (by omega) h.bk))⟩
theorem Gs.new (w : World) (g : Gr) : Gs w g (List.replicate g.rules.length noF) ((((w.alloc (.cells #[.slice g.a g.rules.length g.c] 24)).alloc (.cells (noFs g.rules.length) 61)).alloc (.cells #[.slice g.a g.rules.length g.c] 24)).alloc (.cells #[.slice (some ⟨w.heap.size + 1, 0, none⟩) g.rules.length g.rules.length] 48)) := by
  have h1 := Fx.new (w.alloc (.cells #[.slice g.a g.rules.length g.c] 24)) g.rules.length
  rw [World.size_alloc] at h1
  have h2 := BoxN.new ((w.alloc (.cells #[.slice g.a g.rules.length g.c] 24)).alloc (.cells (noFs g.rules.length) 61)) 24 #[.slice g.a g.rules.length g.c]
  have h3 := BoxN.new (((w.alloc (.cells #[.slice g.a g.rules.length g.c] 24)).alloc (.cells (noFs g.rules.length) 61)).alloc (.cells #[.slice g.a g.rules.length g.c] 24)) 48 #[.slice (some ⟨w.heap.size + 1, 0, none⟩) g.rules.length g.rules.length]
  rw [World.size_alloc, World.size_alloc] at h2
  rw [World.size_alloc, World.size_alloc, World.size_alloc] at h3
  exact ⟨((((Below.refl _ w).alloc (Nat.le_refl _) _).alloc (by simp) _).alloc (by simp; omega) _).alloc (by simp; omega) _, (((BoxN.new w 24 _).alloc _).alloc _).alloc _, (h1.kept (World.grownBy_alloc _ _ none) (by simp)).kept (World.grownBy_alloc _ _ none) (by simp), h2.alloc _, h3⟩
/-- What grow answers. -/
structure GrowR (g : Gr) (w : World) (r : Ending) (W' : World) : Prop where
  out : ∃ B m, r = .returned (.slice (some ⟨B, 0, none⟩) g.rules.length g.rules.length) ∧ w.heap.size ≤ B ∧ Fx W' B m ∧ Least fLe g.rules.length (mst g.rules) m ∧ Below w.heap.size w W'
theorem Gs.drewN {w : World} {g : Gr} {l : List Fa} {W : World} (h : Gs w g l W) (n : Nat) : Gs w g l (W.drewN n) := h.step ⟨rfl, rfl, rfl, Nat.le_refl _, fun _ _ => rfl⟩
set_option maxRecDepth 20000 in
set_option maxHeartbeats 8000000 in
theorem grow_any (g : Gr) (hok : GOk g.rules) (w : World) (hin : g.In w.heap.size w) :
    Calls Try.prog 50 #[g.val, .func (.func 51) #[] #[]] w (GrowR g w) := by
  have HG : Hid (∀ r W', (∃ B m, r = .returned (.slice (some ⟨B, 0, none⟩) g.rules.length g.rules.length) ∧ w.heap.size ≤ B ∧ Fx W' B m ∧ Least fLe g.rules.length (mst g.rules) m ∧ Below w.heap.size w W') → GrowR g w r W') := fun r W' h => ⟨h⟩
  generalize GrowR g w = PP at *
  have h10 := hok.most
  have hmk : ∀ W, _ := fun W => make_facts g.rules.length (by omega) W
  have hbn := byName_any g (some ⟨w.heap.size + 1, 0, none⟩) g.rules.length g.rules.length ((w.alloc (.cells #[.slice g.a g.rules.length g.c] 24)).alloc (.cells (noFs g.rules.length) 61))
  rw [show ((w.alloc (.cells #[.slice g.a g.rules.length g.c] 24)).alloc (.cells (noFs g.rules.length) 61)).heap.size = w.heap.size + 1 + 1 from by simp] at hbn
  have hG0 : Hid _ := Gs.new w g
  have HM : Hid (∀ (l : List Fa) (i : Nat) (r : ByteArray × Ex), l.length = g.rules.length → g.rules[i]? = some r → ∀ W, Gs w g l W → Calls Try.prog 51 #[r.2.val, ofv (w.heap.size + 1 + 1 + 1) (w.heap.size + 1 + 1)] W fun e W' => e = .returned (fval (mst g.rules l i)) ∧ Below W.heap.size W W') := fun l i r hl hr W hs => by
    rw [mst_at hr]
    exact may_any g l _ _ _ _ h10 r.2 (body_ok hok hr) W (((hin.below hs.bel).rule i r hr).body.mono hs.bel.size) (hs.kn hin hl)
  have HC : Hid (∀ (i : Nat) (r : ByteArray × Ex), g.rules[i]? = some r → ∀ W, Below w.heap.size w W → RuIn w.heap.size W g.a i r) := fun i r hr W hb => (hin.below hb).rule i r hr
  have HR0 : Hid (Sofar fLe g.rules.length (mst g.rules) (List.replicate g.rules.length noF)) := bot_sofar noF_le
  have HMo : Hid (Mono fLe g.rules.length (mst g.rules)) := mst_mono g.rules
  rw [gval_eq]
  unfold ofv at HM hbn
  generalize mst g.rules = st at *
  clear hin hok
  go_enter Try.func50, Try.ntmps50
  go_wp2_with (go_at_call 52; refine hbn.mono ?_; rintro e W1 ⟨rfl, hW1⟩; rw [← hW1] at hG0; clear hW1 hbn)
  clear hmk
  go_loopg [7] (3 * g.rules.length + 1) (fun gk p wr => ∃ (b : Bool) (l : List Fa), p = .bool b ∧ Hid (Gs w g l wr ∧ Sofar fLe g.rules.length st l ∧ (b = false → Least fLe g.rules.length st l) ∧ (b = true → 3 * g.rules.length + 1 ≤ gk + rkL fRk l)))
  case atStart => exact ⟨true, _, rfl, hG0.out, HR0.out, (fun h => by cases h), fun _ => by omega⟩
  case round =>
    clear hG0 HR0
    obtain ⟨b, l, rfl, HQ⟩ := hrel
    have hll := HQ.out.2.1.len
    have hx := HQ.out.1.x
    cases b with
    | false =>
      have hL : Hid (Least fLe g.rules.length st l) := HQ.out.2.2.1 rfl
      clear HM HC HMo hx
      go_wp2_with fail
      exact HG.out _ _ ⟨_, l, rfl, Nat.le_succ _, HQ.out.1.x, hL.out, HQ.out.1.bel⟩
    | true =>
      have hgk : Hid (3 * g.rules.length + 1 ≤ gk + rkL fRk l) := HQ.out.2.2.2 rfl
      have cG : wr.cell? ⟨w.heap.size, 0, none⟩ = some (.slice g.a g.rules.length g.c) := HQ.out.1.b0.cell 0
      have HL : Hid (Round fLe fRk g.rules.length st l 0 l false ∧ Gs w g l wr) := ⟨Round.start HQ.out.2.1, HQ.out.1⟩
      clear HQ hx
      go_wp2_with fail
      clear cG
      go_loopw [7, 22] (fun p q wr => ∃ (b : Bool) (i : Nat) (l' : List Fa), p = .bool b ∧ q = .int .i64 i ∧ i ≤ g.rules.length ∧ Hid (Round fLe fRk g.rules.length st l i l' b ∧ Gs w g l' wr)) (fun _ q _ => g.rules.length - (intOf q).toNat)
      case atStart => exact ⟨false, 0, l, rfl, rfl, Nat.zero_le _, HL⟩
      case round =>
        clear HL
        obtain ⟨b, i, l', rfl, rfl, hi, HQ⟩ := hrel
        by_cases hend : i = g.rules.length
        · have g1 : decide (i < g.rules.length) = false := by simp; omega
          clear HM HC
          have hfin : Hid (∃ k, k < gk ∧ Gs w g l' wr ∧ Sofar fLe g.rules.length st l' ∧ (b = false → Least fLe g.rules.length st l') ∧ (b = true → 3 * g.rules.length + 1 ≤ k + rkL fRk l')) := by
            have hr := HQ.out.1
            rw [hend] at hr
            have hm := rkL_most fLat l
            rw [hll] at hm
            have hg := hgk.out
            refine ⟨gk - 1, by omega, HQ.out.2, hr.so, fun hb => ?_, fun hb => ?_⟩
            · rw [hb] at hr; exact hr.fin fLat
            · have := hr.yes hb; omega
          obtain ⟨k, hk1, hk2⟩ := hfin.out
          have HK : Hid _ := hk2
          clear hend HQ hfin hk2 hgk
          go_wp2_with fail
          go_roundg k
          case measure => exact hk1
          case rel => exact ⟨b, l', rfl, HK.out⟩
        · have hlt : i < g.rules.length := by omega
          obtain ⟨r, hr⟩ : ∃ r, g.rules[i]? = some r := ⟨_, List.getElem?_eq_getElem hlt⟩
          obtain ⟨bb, o, ha, hb, c0, c1, c2, c3, c4, c5, c6, c7⟩ := rcells (HC.out i r hr wr HQ.out.2.bel)
          have hll' := HQ.out.1.so.len
          obtain ⟨f, hf⟩ : ∃ f, l'[i]? = some f := ⟨_, List.getElem?_eq_getElem (by rw [hll']; exact hlt)⟩
          have hA := (Below.refl _ wr).alloc (Nat.le_refl _) (.cells (rcell r).toArray 76)
          have hm := HM.out l' i r hll' hr _ (HQ.out.2.step hA)
          rw [val_eq, fval_eta] at hm
          rw [rcell_eq] at hm
          rw [ha]
          clear HC HM hend
          have HS : Hid (∀ W', Below (wr.alloc (.cells (rcell r).toArray 76)).heap.size (wr.alloc (.cells (rcell r).toArray 76)) W' → Gs w g l' W') := fun W' hb => (HQ.out.2.step hA).step hb
          have HN : Hid (∀ more' : Bool, (more' = true ↔ b = true ∨ st l' i ≠ f) → Round fLe fRk g.rules.length st l (i + 1) (l'.set i (st l' i)) more') := fun m' hm' => HQ.out.1.next fLat HMo.out hf hm'
          rw [rcell_eq] at HS
          have HF : Hid (l'[i]? = some f) := hf
          generalize st l' i = nw at *
          have he : ∀ W, _ := fun W => eq_fa3 nw.1 nw.2.1 nw.2.2 f.1 f.2.1 f.2.2 W
          have i0 : (0 : Int) ≤ (i : Int) := by omega
          have i1 : (i : Int) < (g.rules.length : Int) := by omega
          clear HQ hr hf hA hb HMo hgk
          go_wp2_with (go_at_call 51; refine hm.mono ?_; rintro e W2 ⟨rfl, hb⟩
                       have hS : Hid _ := HS.out W2 hb
                       have hS3 := hS.out.step ((Below.refl _ W2).alloc (Nat.le_refl _) (.cells #[.bool nw.1, .bool nw.2.1, .bool nw.2.2] 61))
                       obtain ⟨q0, q1, q2⟩ := hS3.x.fat i f HF.out
                       simp only [Nat.zero_add] at q0 q1 q2
                       have n0 : (W2.alloc (.cells #[.bool nw.1, .bool nw.2.1, .bool nw.2.2] 61)).cell? ⟨W2.heap.size, 0, none⟩ = some (.bool nw.1) := (BoxN.new W2 61 _).cell 0
                       have n1 : (W2.alloc (.cells #[.bool nw.1, .bool nw.2.1, .bool nw.2.2] 61)).cell? ⟨W2.heap.size, 1, none⟩ = some (.bool nw.2.1) := (BoxN.new W2 61 _).cell 1
                       have n2 : (W2.alloc (.cells #[.bool nw.1, .bool nw.2.1, .bool nw.2.2] 61)).cell? ⟨W2.heap.size, 2, none⟩ = some (.bool nw.2.2) := (BoxN.new W2 61 _).cell 2
                       have f0 := hS3.x.frozen (i * 3)
                       have f1 := hS3.x.frozen (i * 3 + 1)
                       have f2 := hS3.x.frozen (i * 3 + 2)
                       have H3 : Hid _ := hS3
                       clear hb HS c0 c1 c2 c3 c4 c5 c6 c7 hS3 hm hS)
          have HD : Hid (∀ n, Gs w g l' ((W2.alloc (.cells #[.bool nw.1, .bool nw.2.1, .bool nw.2.2] 61)).drewN n)) := fun n => H3.out.drewN n
          have hil : i < l'.length := by rw [hll']; exact hlt
          have e0 : ∀ n, ((W2.alloc (.cells #[.bool nw.1, .bool nw.2.1, .bool nw.2.2] 61)).drewN n).cell? ⟨w.heap.size + 1, i * 3, none⟩ = some (.bool f.1) := fun _ => q0
          generalize W2.alloc (.cells #[.bool nw.1, .bool nw.2.1, .bool nw.2.2] 61) = W3 at *
          cases b with
          | true =>
            go_quiet (fail)
            go_wp2_with fail
            exact ⟨⟨true, i + 1, l'.set i nw, rfl, by go_num, by omega, HN.out true (by simp), (HD.out nq).set hil nw⟩, by simp [intOf]; omega⟩
          | false =>
            go_quiet (fail)
            go_wp2_with fail
            refine ⟨⟨_, i + 1, l'.set i nw, rfl, by go_num, by omega, HN.out _ ?_, (HD.out nq).set hil nw⟩, by simp [intOf]; omega⟩
            obtain ⟨n1', n2', n3'⟩ := nw
            obtain ⟨f1', f2', f3'⟩ := f
            simp
            cases n1' <;> cases n2' <;> cases n3' <;> cases f1' <;> cases f2' <;> cases f3' <;> simp
end Go.Proofs.Ytokdaapmejccbaa
