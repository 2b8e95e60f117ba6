import Derived.Test.YtokdaapmejccbaaProg
import Derived.WalkKit
import Derived.Laws.IdiomArrays
namespace Go.Proofs.Ytokdaapmejccbaa
open Go.RowKit
theorem eq_arr_at (d : Nat) (a0 a1 a2 a3 b0 b1 b2 b3 : Int) (w : World) :
    Sem.run Try.prog (Op.equalIn (d + 2) 54 (.agg #[.int .u64 a0, .int .u64 a1, .int .u64 a2, .int .u64 a3]) (.agg #[.int .u64 b0, .int .u64 b1, .int .u64 b2, .int .u64 b3])) w = .ok (a0 == b0 && (a1 == b1 && (a2 == b2 && a3 == b3))) w := by
  have hsz : ∀ w, (sizeOf 52).run Try.prog w = .ok 1 w := fun _ => by kernel_rfl
  have p0 : ∀ (x0 x1 x2 x3 : Int) (w : World), (part 52 #[.int .u64 x0, .int .u64 x1, .int .u64 x2, .int .u64 x3] 0).run Try.prog w = .ok (.int .u64 x0) w := by
    intro x0 x1 x2 x3 w; simp [part, isAgg, run_underlying Try.underlying52]
  have p1 : ∀ (x0 x1 x2 x3 : Int) (w : World), (part 52 #[.int .u64 x0, .int .u64 x1, .int .u64 x2, .int .u64 x3] 1).run Try.prog w = .ok (.int .u64 x1) w := by
    intro x0 x1 x2 x3 w; simp [part, isAgg, run_underlying Try.underlying52]
  have p2 : ∀ (x0 x1 x2 x3 : Int) (w : World), (part 52 #[.int .u64 x0, .int .u64 x1, .int .u64 x2, .int .u64 x3] 2).run Try.prog w = .ok (.int .u64 x2) w := by
    intro x0 x1 x2 x3 w; simp [part, isAgg, run_underlying Try.underlying52]
  have p3 : ∀ (x0 x1 x2 x3 : Int) (w : World), (part 52 #[.int .u64 x0, .int .u64 x1, .int .u64 x2, .int .u64 x3] 3).run Try.prog w = .ok (.int .u64 x3) w := by
    intro x0 x1 x2 x3 w; simp [part, isAgg, run_underlying Try.underlying52]
  have pe : ∀ (x y : Int) (w : World), (Op.equalIn (d + 1) 52 (.int .u64 x) (.int .u64 y)).run Try.prog w = .ok (x == y) w := fun x y w => run_equalIn_int w d 52 .u64 .u64 x y Try.underlying52
  rw [Op.equalIn]
  simp only [Sem.run_bind, run_underlying Try.underlying54, Result.andThen_ok, hsz, Std.Legacy.Range.forIn_eq_forIn_range', Std.Legacy.Range.size, Nat.sub_zero, Nat.add_sub_cancel, Nat.div_one, Nat.mul_one]
  rw [show List.range' 0 4 1 = [0, 1, 2, 3] from rfl]
  simp only [List.forIn_cons, List.forIn_nil, Sem.run_bind, p0, pe, Result.andThen_ok]
  cases a0 == b0
  · simp
  simp only [Bool.not_true, Bool.false_eq_true, if_false, Sem.run_pure, Result.andThen_ok, Sem.run_bind, p1, pe]
  cases a1 == b1
  · simp
  simp only [Bool.not_true, Bool.false_eq_true, if_false, Sem.run_pure, Result.andThen_ok, Sem.run_bind, p2, pe]
  cases a2 == b2
  · simp
  simp only [Bool.not_true, Bool.false_eq_true, if_false, Sem.run_pure, Result.andThen_ok, Sem.run_bind, p3, pe]
  cases a3 == b3
  · simp
  simp
theorem eq_arr (a0 a1 a2 a3 b0 b1 b2 b3 : Int) (w : World) :
    Sem.run Try.prog (Op.equalIn 10000 54 (.agg #[.int .u64 a0, .int .u64 a1, .int .u64 a2, .int .u64 a3]) (.agg #[.int .u64 b0, .int .u64 b1, .int .u64 b2, .int .u64 b3])) w = .ok (a0 == b0 && (a1 == b1 && (a2 == b2 && a3 == b3))) w := eq_arr_at 9998 a0 a1 a2 a3 b0 b1 b2 b3 w
end Go.Proofs.Ytokdaapmejccbaa
