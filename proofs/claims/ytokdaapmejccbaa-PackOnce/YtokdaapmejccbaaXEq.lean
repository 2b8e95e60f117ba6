import Derived.Test.YtokdaapmejccbaaProg
import Derived.Test.YtokdaapmejccbaaXQUpto
import Derived.WalkKit
import Derived.Below
import Derived.Laws.IdiomArrays
namespace Go.Proofs.Ytokdaapmejccbaa
open Go.RowKit
/-- An expression, with where its kids lie. -/
structure Ex where
  mk ::
  (k0 : Int) (S0 : BitVec 256) (t0 : ByteArray) (a0 : Option Addr) (c0 : Nat) (kids0 : List Ex)
namespace Ex
def k : Ex → Int | .mk k _ _ _ _ _ => k
def S : Ex → BitVec 256 | .mk _ S _ _ _ _ => S
def t : Ex → ByteArray | .mk _ _ t _ _ _ => t
def a : Ex → Option Addr | .mk _ _ _ a _ _ => a
def c : Ex → Nat | .mk _ _ _ _ c _ => c
def kids : Ex → List Ex | .mk _ _ _ _ _ kids => kids
def cells (e : Ex) : Array Value := #[.int .i64 e.k, .int .u64 (wd e.S 0), .int .u64 (wd e.S 1), .int .u64 (wd e.S 2), .int .u64 (wd e.S 3), .string e.t, .slice e.a e.kids.length e.c]
def val (e : Ex) : Value := .agg e.cells
end Ex
/-- Its parts lie in blocks below n. -/
def Ex.In (n : Nat) (W : World) : Ex → Prop
  | .mk _ _ t a _ kids => (kids.length ≤ 140737488355328 ∧ t.size ≤ 140737488355328) ∧ InL n W a 0 kids
  where
  InL (n : Nat) (W : World) (a : Option Addr) : Nat → List Ex → Prop
    | _, [] => True
    | i, e :: r => (∃ b o, a = some ⟨b, o, none⟩ ∧ b < n ∧ ∀ j, j < 7 → W.cell? ⟨b, o + i * 7 + j, none⟩ = e.cells[j]?) ∧ Ex.In n W e ∧ InL n W a (i + 1) r
open Ex.In (InL)
def Ex.size : Ex → Nat
  | .mk _ _ _ _ _ kids => 1 + sizeL kids
  where
  sizeL : List Ex → Nat
    | [] => 0
    | e :: r => Ex.size e + sizeL r
open Ex.size (sizeL)
/-- The nodes, each ahead of its kids, with how deep they are. -/
def Ex.nodes (d : Int) : Ex → List (Int × Ex)
  | .mk k S t a c kids => (d, .mk k S t a c kids) :: nodesL (wrap64 (d + 1)) kids
  where
  nodesL (d : Int) : List Ex → List (Int × Ex)
    | [] => []
    | e :: r => Ex.nodes d e ++ nodesL d r
open Ex.nodes (nodesL)
theorem Ex.In.below {n : Nat} {A B : World} (h : Below n A B) : ∀ {e : Ex}, Ex.In n A e → Ex.In n B e
  | .mk _ _ _ _ _ kids, hi => by
    rw [Ex.In] at hi ⊢
    exact ⟨hi.1, go h kids hi.2⟩
  where
  go {n : Nat} {A B : World} (h : Below n A B) {a : Option Addr} : ∀ {i : Nat} (l : List Ex), InL n A a i l → InL n B a i l
    | _, [], _ => by rw [InL]; trivial
    | i, e :: r, hi => by
      rw [InL] at hi ⊢
      obtain ⟨⟨b, o, ha, hb, hc⟩, h1, h2⟩ := hi
      exact ⟨⟨b, o, ha, hb, fun j hj => (h.cell (p := ⟨b, o + i * 7 + j, none⟩) hb).trans (hc j hj)⟩, Ex.In.below h h1, go h r h2⟩
theorem InL.below {n : Nat} {A B : World} (h : Below n A B) {a : Option Addr} : ∀ {i : Nat} (l : List Ex), InL n A a i l → InL n B a i l := Ex.In.below.go h
theorem InL.at {n : Nat} {W : World} {a : Option Addr} : ∀ (l : List Ex) (i j : Nat) (x : Ex), InL n W a i l → l[j]? = some x →
    (∃ b o, a = some ⟨b, o, none⟩ ∧ b < n ∧ ∀ m, m < 7 → W.cell? ⟨b, o + (i + j) * 7 + m, none⟩ = x.cells[m]?) ∧ Ex.In n W x
  | [], _, _, _, _, h => by simp at h
  | e :: r, i, 0, x, hi, h => by
    rw [InL] at hi
    simp at h; subst h
    exact ⟨hi.1, hi.2.1⟩
  | e :: r, i, j + 1, x, hi, h => by
    rw [InL] at hi
    have := InL.at r (i + 1) j x hi.2.2 (by simpa using h)
    rwa [show i + 1 + j = i + (j + 1) from by omega] at this
theorem Ex.In.kid {n : Nat} {W : World} {e x : Ex} {j : Nat} (h : e.In n W) (hj : e.kids[j]? = some x) :
    (∃ b o, e.a = some ⟨b, o, none⟩ ∧ b < n ∧ ∀ m, m < 7 → W.cell? ⟨b, o + j * 7 + m, none⟩ = x.cells[m]?) ∧ x.In n W := by
  cases e with
  | mk k S t a c kids =>
    rw [Ex.In] at h
    have := InL.at kids 0 j x h.2 hj
    rwa [Nat.zero_add] at this
theorem Ex.In.len {n : Nat} {W : World} {e : Ex} (h : e.In n W) : e.kids.length ≤ 140737488355328 := by
  cases e with
  | mk k S t a c kids => rw [Ex.In] at h; exact h.1.1
theorem Ex.In.tlen {n : Nat} {W : World} {e : Ex} (h : e.In n W) : e.t.size ≤ 140737488355328 := by
  cases e with
  | mk k S t a c kids => rw [Ex.In] at h; exact h.1.2
theorem sizeL_mem : ∀ (l : List Ex) (x : Ex), x ∈ l → x.size ≤ sizeL l
  | e :: r, x, h => by
    rw [sizeL]
    rcases List.mem_cons.1 h with rfl | h
    · omega
    · have := sizeL_mem r x h; omega
theorem size_kid {e x : Ex} (h : x ∈ e.kids) : x.size < e.size := by
  cases e with
  | mk k S t a c kids =>
    rw [Ex.size]
    have := sizeL_mem kids x h
    omega
theorem nodes_eq (d : Int) (e : Ex) : e.nodes d = (d, e) :: nodesL (wrap64 (d + 1)) e.kids := by
  cases e with
  | mk k S t a c kids => rw [Ex.nodes]; rfl
theorem nodesL_append (d : Int) : ∀ (l r : List Ex), nodesL d (l ++ r) = nodesL d l ++ nodesL d r
  | [], r => by simp [nodesL]
  | e :: l, r => by rw [List.cons_append, nodesL, nodesL, nodesL_append d l r, List.append_assoc]
theorem nodesL_take (d : Int) (l : List Ex) (j : Nat) (x : Ex) (h : l[j]? = some x) : nodesL d (l.take (j + 1)) = nodesL d (l.take j) ++ x.nodes d := by
  rw [List.take_add_one, h, Option.toList_some, nodesL_append, nodesL, nodesL, List.append_nil]
theorem nodesL_split (d : Int) (l : List Ex) (j : Nat) (x : Ex) (h : l[j]? = some x) : nodesL d l = nodesL d (l.take j) ++ (x.nodes d ++ nodesL d (l.drop (j + 1))) := by
  have h1 := nodesL_append d (l.take (j + 1)) (l.drop (j + 1))
  rw [List.take_append_drop, nodesL_take d l j x h, List.append_assoc] at h1
  exact h1
end Go.Proofs.Ytokdaapmejccbaa
namespace Go.Proofs.Ytokdaapmejccbaa
open Go.RowKit
theorem eq_arr_at (d : Nat) (a0 a1 a2 a3 b0 b1 b2 b3 : Int) (w : World) :
    Sem.run Try.prog (Op.equalIn (d + 2) 54 (.agg #[.int .u64 a0, .int .u64 a1, .int .u64 a2, .int .u64 a3]) (.agg #[.int .u64 b0, .int .u64 b1, .int .u64 b2, .int .u64 b3])) w = .ok (a0 == b0 && (a1 == b1 && (a2 == b2 && a3 == b3))) w := by
  have hsz : ∀ w, (sizeOf 52).run Try.prog w = .ok 1 w := fun _ => by kernel_rfl
  have p0 : ∀ (x0 x1 x2 x3 : Int) (w : World), (part 52 #[.int .u64 x0, .int .u64 x1, .int .u64 x2, .int .u64 x3] 0).run Try.prog w = .ok (.int .u64 x0) w := by
    intro x0 x1 x2 x3 w; simp [part, isAgg, run_underlying Try.underlying52]
  have p1 : ∀ (x0 x1 x2 x3 : Int) (w : World), (part 52 #[.int .u64 x0, .int .u64 x1, .int .u64 x2, .int .u64 x3] 1).run Try.prog w = .ok (.int .u64 x1) w := by
    intro x0 x1 x2 x3 w; simp [part, isAgg, run_underlying Try.underlying52]
  have p2 : ∀ (x0 x1 x2 x3 : Int) (w : World), (part 52 #[.int .u64 x0, .int .u64 x1, .int .u64 x2, .int .u64 x3] 2).run Try.prog w = .ok (.int .u64 x2) w := by
    intro x0 x1 x2 x3 w; simp [part, isAgg, run_underlying Try.underlying52]
  have p3 : ∀ (x0 x1 x2 x3 : Int) (w : World), (part 52 #[.int .u64 x0, .int .u64 x1, .int .u64 x2, .int .u64 x3] 3).run Try.prog w = .ok (.int .u64 x3) w := by
    intro x0 x1 x2 x3 w; simp [part, isAgg, run_underlying Try.underlying52]
  have pe : ∀ (x y : Int) (w : World), (Op.equalIn (d + 1) 52 (.int .u64 x) (.int .u64 y)).run Try.prog w = .ok (x == y) w := fun x y w => run_equalIn_int w d 52 .u64 .u64 x y Try.underlying52
  rw [Op.equalIn]
  simp only [Sem.run_bind, run_underlying Try.underlying54, Result.andThen_ok, hsz, Std.Legacy.Range.forIn_eq_forIn_range', Std.Legacy.Range.size, Nat.sub_zero, Nat.add_sub_cancel, Nat.div_one, Nat.mul_one]
  rw [show List.range' 0 4 1 = [0, 1, 2, 3] from rfl]
  simp only [List.forIn_cons, List.forIn_nil, Sem.run_bind, p0, pe, Result.andThen_ok]
  cases a0 == b0
  · simp
  simp only [Bool.not_true, Bool.false_eq_true, if_false, Sem.run_pure, Result.andThen_ok, Sem.run_bind, p1, pe]
  cases a1 == b1
  · simp
  simp only [Bool.not_true, Bool.false_eq_true, if_false, Sem.run_pure, Result.andThen_ok, Sem.run_bind, p2, pe]
  cases a2 == b2
  · simp
  simp only [Bool.not_true, Bool.false_eq_true, if_false, Sem.run_pure, Result.andThen_ok, Sem.run_bind, p3, pe]
  cases a3 == b3
  · simp
  simp
theorem eq_arr (a0 a1 a2 a3 b0 b1 b2 b3 : Int) (w : World) :
    Sem.run Try.prog (Op.equalIn 10000 54 (.agg #[.int .u64 a0, .int .u64 a1, .int .u64 a2, .int .u64 a3]) (.agg #[.int .u64 b0, .int .u64 b1, .int .u64 b2, .int .u64 b3])) w = .ok (a0 == b0 && (a1 == b1 && (a2 == b2 && a3 == b3))) w := eq_arr_at 9998 a0 a1 a2 a3 b0 b1 b2 b3 w
end Go.Proofs.Ytokdaapmejccbaa
