import Derived.Test.YtediipndkejnkaaProg
import Derived.Test.YtediipndkejnkaaBits
import Derived.WalkKit
import Derived.ProofKit
import Derived.OpenShut
import Derived.ShutString
import Derived.ChangeOld
import Derived.Below
import Derived.Laws.IdiomArrays
namespace Go.Proofs.Ytediipndkejnkaa
open Go.ChangeShapes Go.WideShapes Go.ChangeAt Go.RowKit

theorem own : ownKnob Try.prog.godebug = none := by kernel_rfl
theorem Try.cells27 : Try.prog.cellsOf 27 = 1 := by kernel_rfl
theorem Try.cells29 : Try.prog.cellsOf 29 = 4 := by kernel_rfl

theorem list4 {α : Type} (l : List α) (h : (⟨l⟩ : Array α).size = 4) : ∃ a b c d, l = [a, b, c, d] := by
  match l, h with
  | [a, b, c, d], _ => exact ⟨a, b, c, d, rfl⟩

/-- A set that came in: its four words, as a set of 256 bits. -/
theorem open_set {H : Type} {enc : TypeId × Value → H} {w : World} {base b0 : Nat} {r : Reach} {spare : Nat → Bool} {held : Bool} {v : Value} {d : DataW H} {ps : List MemPlace}
    (hval : Value.okWide Try.prog w r b0 29 v) (hd : DataW.Trod enc Try.prog w base spare held 29 v d ps) :
    ∃ S : BitVec 256, v = .agg #[.int .u64 (wd S 0), .int .u64 (wd S 1), .int .u64 (wd S 2), .int .u64 (wd S 3)] ∧ d = .agg [.lit (.int .u64 (wd S 0)), .lit (.int .u64 (wd S 1)), .lit (.int .u64 (wd S 2)), .lit (.int .u64 (wd S 3))] ∧ ps = [] := by
  obtain ⟨cs, rfl, hsz, _⟩ : ∃ cs, v = .agg cs ∧ cs.size = Try.prog.cellsOf 29 ∧ Row.okWide Try.prog w r b0 29 cs := by
    simpa [Value.okWide, Try.underlying29] using hval
  rw [Try.cells29] at hsz
  obtain ⟨l⟩ := cs
  obtain ⟨c0, c1, c2, c3, rfl⟩ := list4 l hsz
  obtain ⟨fuel, hf⟩ := hd
  obtain ⟨y0, y1, y2, y3, m, hx, hy0, hy1, hy2, hy3⟩ := trod_array4 Try.underlying29 Try.cells27 hf
  obtain ⟨x0, e0, rfl, w0⟩ := DataW.trod_int Try.underlying27 hy0
  obtain ⟨x1, e1, rfl, w1⟩ := DataW.trod_int Try.underlying27 hy1
  obtain ⟨x2, e2, rfl, w2⟩ := DataW.trod_int Try.underlying27 hy2
  obtain ⟨x3, e3, rfl, w3⟩ := DataW.trod_int Try.underlying27 hy3
  simp at e0 e1 e2 e3
  subst e0 e1 e2 e3
  simp only [Prod.mk.injEq] at hx
  obtain ⟨rfl, rfl⟩ := hx
  have b0 := bounds_u64 w0
  have b1 := bounds_u64 w1
  have b2 := bounds_u64 w2
  have b3 := bounds_u64 w3
  obtain ⟨q0, q1, q2, q3⟩ := ofW_wd x0 x1 x2 x3 (by omega) (by omega) (by omega) (by omega)
  exact ⟨ofW x0 x1 x2 x3, by rw [q0, q1, q2, q3], by rw [q0, q1, q2, q3], rfl⟩

theorem wf_wd (S : BitVec 256) (k : Nat) : (Lit.int .u64 (wd S k)).wf = true := by
  have h0 := wd_nonneg S k
  have h1 := wd_lt S k
  simp [Lit.wf, IntKind.min, IntKind.max, IntKind.signed, IntKind.bits]
  omega

theorem shut_set {H : Type} (enc : TypeId × Value → H) (w : World) (base : Nat) (spare : Nat → Bool) (held : Bool) (S : BitVec 256) :
    DataW.Trod enc Try.prog w base spare held 29 (.agg #[.int .u64 (wd S 0), .int .u64 (wd S 1), .int .u64 (wd S 2), .int .u64 (wd S 3)]) (.agg [.lit (.int .u64 (wd S 0)), .lit (.int .u64 (wd S 1)), .lit (.int .u64 (wd S 2)), .lit (.int .u64 (wd S 3))]) [] :=
  ⟨2, by simp [DataW.trod, Value.cells, Try.underlying29, Try.underlying27, Try.cells29, Try.cells27, wf_wd, show List.range 4 = [0, 1, 2, 3] from rfl]⟩
end Go.Proofs.Ytediipndkejnkaa
