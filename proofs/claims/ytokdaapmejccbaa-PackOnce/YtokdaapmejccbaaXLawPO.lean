import Derived.Test.YtokdaapmejccbaaXLawMS
import Derived.Test.YtokdaapmejccbaaXRyA
import Derived.Test.YtokdaapmejccbaaXOneG
import Derived.Laws.StructEq
import Derived.Deep.LoopGhost
import Derived.Test.YtokdaapmejccbaaXSchA
import Derived.Test.YtokdaapmejccbaaXLawMM
namespace Go.Proofs.Ytokdaapmejccbaa
open Go.RowKit
set_option linter.unusedVariables false
set_option linter.unusedSimpArgs false
set_option maxRecDepth 20000 in
theorem eq_fa (a b c : Bool) (w : World) : Sem.run Try.prog (Op.equalIn 10000 61 (.agg #[.bool a, .bool b, .bool c]) (.agg #[.bool a, .bool b, .bool c])) w = .ok true w := by
  have h1 : Try.prog.underlying 61 = some (.struct (Try.prog.fieldsOf 61)) := by kernel_rfl
  have h2 : Try.prog.stoodInHeld 61 = false := by kernel_rfl
  rw [show (10000 : Nat) = 9999 + 1 from rfl, run_equalIn_struct w 9999 61 _ _ h1 h2]
  have h5 := Try.underlying61
  rw [h1, Option.some.injEq, TypeDesc.struct.injEq] at h5
  rw [h5]
  have pe : ∀ (a b : Bool) (w : World), (Op.equalIn 9999 4 (.bool a) (.bool b)).run Try.prog w = .ok (a == b) w := fun a b w => run_equalIn_bool w 9998 4 a b Try.underlying4
  have p0 : ∀ (u v x : Value) (w : World), (Go.part 4 #[u, v, x] 0).run Try.prog w = .ok u w := fun u v x w => by simp [Go.part, Go.isAgg, run_underlying Try.underlying4]
  have p1 : ∀ (u v x : Value) (w : World), (Go.part 4 #[u, v, x] 1).run Try.prog w = .ok v w := fun u v x w => by simp [Go.part, Go.isAgg, run_underlying Try.underlying4]
  have p2 : ∀ (u v x : Value) (w : World), (Go.part 4 #[u, v, x] 2).run Try.prog w = .ok x w := fun u v x w => by simp [Go.part, Go.isAgg, run_underlying Try.underlying4]
  simp [Op.eqFields, p0, p1, p2, pe]
/-- The facts of the literal x. -/
theorem lit_least (m : List Fa) (h : Least fLe 1 (mst [(na, elit nx)]) m) : m = [(false, true, true)] := by
  have hs : ∀ l, mst [(na, elit nx)] l 0 = (false, true, true) := fun l => by
    rw [mst_at (r := (na, elit nx)) rfl]
    unfold elit exo
    rw [may_eq]
    rfl
  refine Least.uniq fLat h ⟨⟨rfl, fun i a ha => ?_⟩, fun q hq => ?_⟩
  · have hi : i = 0 := by have := (List.getElem?_eq_some_iff.1 ha).1; simp at this; omega
    subst hi
    cases ha
    rw [hs]
    exact ⟨fun h => h, fun h => h, fun h => h⟩
  · obtain ⟨y, rfl⟩ := List.length_eq_one_iff.1 hq.len
    refine ⟨rfl, fun i a b ha hb => ?_⟩
    have hi : i = 0 := by have := (List.getElem?_eq_some_iff.1 ha).1; simp at this; omega
    subst hi
    cases ha
    cases hb
    have := hq.all 0 y rfl
    rw [hs] at this
    exact this
/-- What a rule does it may do. -/
theorem pk_told {g : Gr} {n9 : Int} (h : W9 g n9 0) {T : ByteArray} {i p : Nat} (hp : p ≤ T.size) {o : Ot} {L : List St} (hP : PkS g T i p o L) {m : List Fa} (hm : Least fLe g.rules.length (mst g.rules) m) : ∃ F, m[i]? = some F ∧ Does F T.size p o := by
  obtain ⟨-, -, hok, hB, lf, hW⟩ := h.ok
  obtain rfl := hm.uniq fLat hW.may
  obtain ⟨r, f, n, N, hr, hf, -⟩ := hP.ex
  have hmr := List.mem_of_getElem? hr
  obtain ⟨o2, n2, h2, hd⟩ := evs_ex (s := T.data.toList) hW (hB r hmr) (hW.nolp r hmr) (p := p) hp
  obtain ⟨rfl, -⟩ := h2.same ⟨f, hf⟩
  obtain ⟨F, hF⟩ : ∃ F, m[i]? = some F := ⟨_, List.getElem?_eq_getElem (by rw [hm.pre.len]; exact (List.getElem?_eq_some_iff.1 hr).1)⟩
  refine ⟨F, hF, ?_⟩
  have hle := hm.pre.all i F hF
  rw [mst_at hr] at hle
  exact hd.le hle
set_option maxRecDepth 20000 in
set_option maxHeartbeats 4000000 in
theorem feq_any (B1 B2 c1 c2 : Nat) (a b c : Bool) (w : World) (hl1 : B1 < w.heap.size) (hl2 : B2 < w.heap.size)
    (h1 : w.cell? ⟨B1, 0, none⟩ = some (.bool a) ∧ w.cell? ⟨B1, 1, none⟩ = some (.bool b) ∧ w.cell? ⟨B1, 2, none⟩ = some (.bool c)) (h2 : w.cell? ⟨B2, 0, none⟩ = some (.bool a) ∧ w.cell? ⟨B2, 1, none⟩ = some (.bool b) ∧ w.cell? ⟨B2, 2, none⟩ = some (.bool c)) :
    Calls Try.prog 27 #[.slice (some ⟨B1, 0, none⟩) 1 c1, .slice (some ⟨B2, 0, none⟩) 1 c2] w fun r W' => r = .returned (.bool true) ∧ Below w.heap.size w W' := by
  have hq := fun a b c W => eq_fa a b c W
  have HC : Hid (∀ W, Below w.heap.size w W → (W.cell? ⟨B1, 0, none⟩ = some (.bool a) ∧ W.cell? ⟨B1, 1, none⟩ = some (.bool b) ∧ W.cell? ⟨B1, 2, none⟩ = some (.bool c)) ∧ (W.cell? ⟨B2, 0, none⟩ = some (.bool a) ∧ W.cell? ⟨B2, 1, none⟩ = some (.bool b) ∧ W.cell? ⟨B2, 2, none⟩ = some (.bool c))) := fun W hb =>
    ⟨⟨(hb.cell (p := ⟨B1, 0, none⟩) hl1).trans h1.1, (hb.cell (p := ⟨B1, 1, none⟩) hl1).trans h1.2.1, (hb.cell (p := ⟨B1, 2, none⟩) hl1).trans h1.2.2⟩, (hb.cell (p := ⟨B2, 0, none⟩) hl2).trans h2.1, (hb.cell (p := ⟨B2, 1, none⟩) hl2).trans h2.2.1, (hb.cell (p := ⟨B2, 2, none⟩) hl2).trans h2.2.2⟩
  clear h1 h2
  go_enter Try.func27, Try.ntmps27
  go_wp2_with fail
  go_loopw [13] (fun p wr => ∃ k : Nat, p = .int .i64 (k : Int) ∧ k ≤ 1 ∧ Hid (Below w.heap.size w wr)) (fun p _ => 1 - (intOf p).toNat)
  case atStart => exact ⟨0, rfl, by omega, Below.refl _ w⟩
  case round =>
    obtain ⟨k, rfl, hk, HB⟩ := hrel
    by_cases hk0 : k = 0
    · subst hk0
      have HB1 : Hid (Below w.heap.size w wr.drew) := HB.out.drew
      go_wp2_with fail
      refine wp_region_sch (fun W => (W.cell? ⟨B1, 0, none⟩ = some (.bool a) ∧ W.cell? ⟨B1, 1, none⟩ = some (.bool b) ∧ W.cell? ⟨B1, 2, none⟩ = some (.bool c)) ∧ (W.cell? ⟨B2, 0, none⟩ = some (.bool a) ∧ W.cell? ⟨B2, 1, none⟩ = some (.bool b) ∧ W.cell? ⟨B2, 2, none⟩ = some (.bool c))) 9 [(0,true),(1,true),(2,true),(3,true),(4,true),(5,true),(6,true),(7,true),(8,true)] _ (by kernel_rfl) (by kernel_rfl) (fun h => absurd h (by decide)) (by kernel_rfl) rfl (fun c a d v w h => by cases d <;> exact h) (HC.out _ HB1.out) ?_
      iterate 9
        refine wpSch_read rfl rfl ?_
        apply Exists.intro
        refine ⟨fun W hW => ?_, ?_⟩
        · obtain ⟨⟨x1, x2, x3⟩, y1, y2, y3⟩ := hW
          go_simp
          with_reducible rfl
        show wpSch _ _ _ _ _ _ (Act.put _ (some _) _) _
        simp only [Act.put, List.setIfInBounds_toArray, List.set_cons_zero, List.set_cons_succ]
      unfold wpSch
      go_wp2_with fail
      exact ⟨⟨1, by go_num, by omega, HB1⟩, by simp [intOf]⟩
    · obtain rfl : k = 1 := by omega
      go_wp2_with fail
      exact bodyPost_ret (by simp [results, Try.results27, go_sem]) rfl ⟨rfl, HB.out⟩
end Go.Proofs.Ytokdaapmejccbaa
namespace Go.Proofs.Ytokdaapmejccbaa
open Go.RowKit
set_option linter.unusedVariables false
set_option linter.unusedSimpArgs false
set_option maxRecDepth 20000 in
theorem eq_st (a b n : Int) (z : Bool) (w : World) : Sem.run Try.prog (Op.equalIn 10000 43 (.agg #[.int .i64 a, .int .i64 b, .bool z, .int .i64 n]) (.agg #[.int .i64 a, .int .i64 b, .bool z, .int .i64 n])) w = .ok true w := by
  have h1 : Try.prog.underlying 43 = some (.struct (Try.prog.fieldsOf 43)) := by kernel_rfl
  have h2 : Try.prog.stoodInHeld 43 = false := by kernel_rfl
  have h3 : Try.prog.underlying 29 = some (.struct (Try.prog.fieldsOf 29)) := by kernel_rfl
  have h4 : Try.prog.stoodInHeld 29 = false := by kernel_rfl
  have h7 := Try.underlying29
  have hq : ∀ w : World, (Op.equalIn 9999 29 (.agg #[.bool z, .int .i64 n]) (.agg #[.bool z, .int .i64 n])).run Try.prog w = .ok true w := fun w => by
    rw [show (9999 : Nat) = 9998 + 1 from rfl, run_equalIn_struct w 9998 29 _ _ h3 h4]
    rw [h3, Option.some.injEq, TypeDesc.struct.injEq] at h7
    rw [h7]
    have pe : ∀ (a b : Bool) (w : World), (Op.equalIn 9998 4 (.bool a) (.bool b)).run Try.prog w = .ok (a == b) w := fun a b w => run_equalIn_bool w 9997 4 a b Try.underlying4
    have pi : ∀ (a b : Int) (w : World), (Op.equalIn 9998 3 (.int .i64 a) (.int .i64 b)).run Try.prog w = .ok (a == b) w := fun a b w => run_equalIn_int w 9997 3 .i64 .i64 a b Try.underlying3
    have p0 : ∀ (u v : Value) (w : World), (Go.part 4 #[u, v] 0).run Try.prog w = .ok u w := fun u v w => by simp [Go.part, Go.isAgg, run_underlying Try.underlying4]
    have p1 : ∀ (u v : Value) (w : World), (Go.part 3 #[u, v] 1).run Try.prog w = .ok v w := fun u v w => by simp [Go.part, Go.isAgg, run_underlying Try.underlying3]
    simp [Op.eqFields, p0, p1, pe, pi]
  rw [show (10000 : Nat) = 9999 + 1 from rfl, run_equalIn_struct w 9999 43 _ _ h1 h2]
  have h5 := Try.underlying43
  rw [h1, Option.some.injEq, TypeDesc.struct.injEq] at h5
  rw [h5]
  have pi : ∀ (a b : Int) (w : World), (Op.equalIn 9999 3 (.int .i64 a) (.int .i64 b)).run Try.prog w = .ok (a == b) w := fun a b w => run_equalIn_int w 9998 3 .i64 .i64 a b Try.underlying3
  have p0 : ∀ (u v x y : Value) (w : World), (Go.part 3 #[u, v, x, y] 0).run Try.prog w = .ok u w := fun u v x y w => by simp [Go.part, Go.isAgg, run_underlying Try.underlying3]
  have p1 : ∀ (u v x y : Value) (w : World), (Go.part 3 #[u, v, x, y] 1).run Try.prog w = .ok v w := fun u v x y w => by simp [Go.part, Go.isAgg, run_underlying Try.underlying3]
  have p2 : ∀ (u v x y : Value) (w : World), (Go.part 29 #[u, v, x, y] 2).run Try.prog w = .ok (.agg #[x, y]) w := fun u v x y w => by kernel_rfl
  simp [Op.eqFields, p0, p1, p2, pi, hq]
set_option maxRecDepth 20000 in
set_option maxHeartbeats 4000000 in
theorem seq_any (B1 B2 c1 c2 : Nat) (a b n : Int) (z : Bool) (w : World) (hl1 : B1 < w.heap.size) (hl2 : B2 < w.heap.size)
    (h1 : w.cell? ⟨B1, 0, none⟩ = some (.int .i64 a) ∧ w.cell? ⟨B1, 1, none⟩ = some (.int .i64 b) ∧ w.cell? ⟨B1, 2, none⟩ = some (.bool z) ∧ w.cell? ⟨B1, 3, none⟩ = some (.int .i64 n)) (h2 : w.cell? ⟨B2, 0, none⟩ = some (.int .i64 a) ∧ w.cell? ⟨B2, 1, none⟩ = some (.int .i64 b) ∧ w.cell? ⟨B2, 2, none⟩ = some (.bool z) ∧ w.cell? ⟨B2, 3, none⟩ = some (.int .i64 n)) :
    Calls Try.prog 21 #[.slice (some ⟨B1, 0, none⟩) 1 c1, .slice (some ⟨B2, 0, none⟩) 1 c2] w fun r W' => r = .returned (.bool true) ∧ Below w.heap.size w W' := by
  have hq := fun a b n z W => eq_st a b n z W
  have HC : Hid (∀ W, Below w.heap.size w W → (W.cell? ⟨B1, 0, none⟩ = some (.int .i64 a) ∧ W.cell? ⟨B1, 1, none⟩ = some (.int .i64 b) ∧ W.cell? ⟨B1, 2, none⟩ = some (.bool z) ∧ W.cell? ⟨B1, 3, none⟩ = some (.int .i64 n)) ∧ (W.cell? ⟨B2, 0, none⟩ = some (.int .i64 a) ∧ W.cell? ⟨B2, 1, none⟩ = some (.int .i64 b) ∧ W.cell? ⟨B2, 2, none⟩ = some (.bool z) ∧ W.cell? ⟨B2, 3, none⟩ = some (.int .i64 n))) := fun W hb =>
    ⟨⟨(hb.cell (p := ⟨B1, 0, none⟩) hl1).trans h1.1, (hb.cell (p := ⟨B1, 1, none⟩) hl1).trans h1.2.1, (hb.cell (p := ⟨B1, 2, none⟩) hl1).trans h1.2.2.1, (hb.cell (p := ⟨B1, 3, none⟩) hl1).trans h1.2.2.2⟩, ⟨(hb.cell (p := ⟨B2, 0, none⟩) hl2).trans h2.1, (hb.cell (p := ⟨B2, 1, none⟩) hl2).trans h2.2.1, (hb.cell (p := ⟨B2, 2, none⟩) hl2).trans h2.2.2.1, (hb.cell (p := ⟨B2, 3, none⟩) hl2).trans h2.2.2.2⟩⟩
  clear h1 h2
  go_enter Try.func21, Try.ntmps21
  go_wp2_with fail
  go_loopw [13] (fun p wr => ∃ k : Nat, p = .int .i64 (k : Int) ∧ k ≤ 1 ∧ Hid (Below w.heap.size w wr)) (fun p _ => 1 - (intOf p).toNat)
  case atStart => exact ⟨0, rfl, by omega, Below.refl _ w⟩
  case round =>
    obtain ⟨k, rfl, hk, HB⟩ := hrel
    by_cases hk0 : k = 0
    · subst hk0
      have HB1 : Hid (Below w.heap.size w wr.drew) := HB.out.drew
      go_wp2_with fail
      refine wp_region_sch (fun W => (W.cell? ⟨B1, 0, none⟩ = some (.int .i64 a) ∧ W.cell? ⟨B1, 1, none⟩ = some (.int .i64 b) ∧ W.cell? ⟨B1, 2, none⟩ = some (.bool z) ∧ W.cell? ⟨B1, 3, none⟩ = some (.int .i64 n)) ∧ (W.cell? ⟨B2, 0, none⟩ = some (.int .i64 a) ∧ W.cell? ⟨B2, 1, none⟩ = some (.int .i64 b) ∧ W.cell? ⟨B2, 2, none⟩ = some (.bool z) ∧ W.cell? ⟨B2, 3, none⟩ = some (.int .i64 n))) 9 [(0,true),(1,true),(2,true),(3,true),(4,true),(5,true),(6,true),(7,true),(8,true)] _ (by kernel_rfl) (by kernel_rfl) (fun h => absurd h (by decide)) (by kernel_rfl) rfl (fun c a d v w h => by cases d <;> exact h) (HC.out _ HB1.out) ?_
      iterate 9
        refine wpSch_read rfl rfl ?_
        apply Exists.intro
        refine ⟨fun W hW => ?_, ?_⟩
        · obtain ⟨⟨x1, x2, x3, x4⟩, y1, y2, y3, y4⟩ := hW
          go_simp
          with_reducible rfl
        show wpSch _ _ _ _ _ _ (Act.put _ (some _) _) _
        simp only [Act.put, List.setIfInBounds_toArray, List.set_cons_zero, List.set_cons_succ]
      unfold wpSch
      go_wp2_with fail
      exact ⟨⟨1, by go_num, by omega, HB1⟩, by simp [intOf]⟩
    · obtain rfl : k = 1 := by omega
      go_wp2_with fail
      exact bodyPost_ret (by simp [results, Try.results21, go_sem]) rfl ⟨rfl, HB.out⟩
set_option maxRecDepth 20000 in
set_option maxHeartbeats 4000000 in
/-- Another rule, or another place. -/
theorem cls_any (a b n xa xb : Int) (z : Bool) (Bx : Nat) (w : World) (hl : Bx < w.heap.size) (h0 : w.cell? ⟨Bx, 0, none⟩ = some (.int .i64 xa)) (h1 : w.cell? ⟨Bx, 1, none⟩ = some (.int .i64 xb)) (hno : ¬ (a = xa ∧ b = xb)) :
    Calls Try.prog 35 #[.agg #[.int .i64 a, .int .i64 b, .bool z, .int .i64 n], .pointer (some ⟨Bx, 0, none⟩)] w fun r W' => r = .returned (.bool false) ∧ Below w.heap.size w W' := by
  have hA := (Below.refl w.heap.size w).alloc (Nat.le_refl _) (.cells #[.int .i64 a, .int .i64 b, .bool z, .int .i64 n] 43)
  have d0 := (hA.cell (p := ⟨Bx, 0, none⟩) hl).trans h0
  have d1 := (hA.cell (p := ⟨Bx, 1, none⟩) hl).trans h1
  have hne : Bx ≠ w.heap.size := by omega
  by_cases e1 : a = xa
  · have e2 : (b == xb) = false := by simp; exact fun e => hno ⟨e1, e⟩
    subst e1
    go_enter Try.func35, Try.ntmps35
    go_wp2_with fail
    exact bodyPost_ret (by simp [results, Try.results35, go_sem]) rfl ⟨rfl, hA⟩
  · have e2 : (a == xa) = false := by simpa using e1
    go_enter Try.func35, Try.ntmps35
    go_wp2_with fail
    exact bodyPost_ret (by simp [results, Try.results35, go_sem]) rfl ⟨rfl, hA⟩
theorem run_call35 (av : Array Value) (W : World) : Sem.run Try.prog (callFunc 35 av) W = .ok (.enter 35 av) W := by kernel_rfl
/-- The steps, where they lie. -/
def StAt (W : World) (B : Nat) (L : List St) : Prop := ∀ (k : Nat) (y : St), L[k]? = some y → ∃ z n, ocells y.1.2 y.2 = #[.bool z, .int .i64 n] ∧ W.cell? ⟨B, k * 4, none⟩ = some (.int .i64 (y.1.1 : Int)) ∧ W.cell? ⟨B, k * 4 + 1, none⟩ = some (.int .i64 (y.1.2 : Int)) ∧ W.cell? ⟨B, k * 4 + 2, none⟩ = some (.bool z) ∧ W.cell? ⟨B, k * 4 + 3, none⟩ = some (.int .i64 n)
theorem StAt.below {N : Nat} {W W' : World} {B : Nat} {L : List St} (h : StAt W B L) (hb : Below N W W') (hB : B < N) : StAt W' B L := fun k y hy => by
  obtain ⟨z, n, h1, h2, h3, h4, h5⟩ := h k y hy
  exact ⟨z, n, h1, (hb.cell (p := ⟨B, _, none⟩) hB).trans h2, (hb.cell (p := ⟨B, _, none⟩) hB).trans h3, (hb.cell (p := ⟨B, _, none⟩) hB).trans h4, (hb.cell (p := ⟨B, _, none⟩) hB).trans h5⟩
set_option maxRecDepth 20000 in
set_option maxHeartbeats 4000000 in
theorem idx_any (B c : Nat) (M : List St) (i p Bx : Nat) (w : World) (hM : M.length ≤ 1000000) (hB : B < w.heap.size) (hL : StAt w B M) (hl : Bx < w.heap.size) (h0 : w.cell? ⟨Bx, 0, none⟩ = some (.int .i64 (i : Int))) (h1 : w.cell? ⟨Bx, 1, none⟩ = some (.int .i64 (p : Int))) (hno : ∀ y ∈ M, y.1 ≠ (i, p)) :
    Calls Try.prog 64 #[.slice (some ⟨B, 0, none⟩) M.length c, .func (.func 35) #[] #[.pointer (some ⟨Bx, 0, none⟩)]] w fun r W' => r = .returned (.int .i64 (-1)) ∧ Below w.heap.size w W' := by
  have hrun := fun av W => run_call35 av W
  have HC : Hid (∀ (W : World) (k : Nat) (y : St), Below w.heap.size w W → M[k]? = some y → ∃ z n, (W.cell? ⟨B, k * 4, none⟩ = some (.int .i64 (y.1.1 : Int)) ∧ W.cell? ⟨B, k * 4 + 1, none⟩ = some (.int .i64 (y.1.2 : Int)) ∧ W.cell? ⟨B, k * 4 + 2, none⟩ = some (.bool z) ∧ W.cell? ⟨B, k * 4 + 3, none⟩ = some (.int .i64 n)) ∧ Calls Try.prog 35 #[.agg #[.int .i64 (y.1.1 : Int), .int .i64 (y.1.2 : Int), .bool z, .int .i64 n], .pointer (some ⟨Bx, 0, none⟩)] W fun r W' => r = .returned (.bool false) ∧ Below W.heap.size W W') := fun W k y hb hy => by
    obtain ⟨z, n, -, k1, k2, k3, k4⟩ := hL.below hb hB k y hy
    refine ⟨z, n, ⟨k1, k2, k3, k4⟩, cls_any _ _ _ _ _ _ Bx W (Nat.lt_of_lt_of_le hl hb.size) ((hb.cell (p := ⟨Bx, 0, none⟩) hl).trans h0) ((hb.cell (p := ⟨Bx, 1, none⟩) hl).trans h1) (fun e => hno y (List.mem_of_getElem? hy) (Prod.ext (by omega) (by omega)))⟩
  clear hL h0 h1 hno
  go_enter Try.func64, Try.ntmps64
  go_wp2_with fail
  go_loopw [8] (fun p wr => ∃ k : Nat, p = .int .i64 (k : Int) ∧ k ≤ M.length ∧ Hid (Below w.heap.size w wr)) (fun p _ => M.length - (intOf p).toNat)
  case atStart => exact ⟨0, rfl, by omega, Below.refl _ w⟩
  case round =>
    obtain ⟨k, rfl, hk, HB⟩ := hrel
    by_cases hke : k = M.length
    · have g1 : decide ((k : Int) < (M.length : Int)) = false := by simp; omega
      subst hke
      go_wp2_with fail
      exact bodyPost_ret (by simp [results, Try.results64, go_sem]) rfl ⟨rfl, HB.out⟩
    · have hkl : k < M.length := by omega
      obtain ⟨y, hy⟩ : ∃ y, M[k]? = some y := ⟨_, List.getElem?_eq_getElem hkl⟩
      obtain ⟨z, n, ⟨d0, d1, d2, d3⟩, hcl⟩ := HC.out wr k y HB.out hy
      clear HC hy
      go_wp2_with (refine hcl.mono ?_; rintro e1 W1 ⟨rfl, hb1⟩; have HB1 : Hid (Below w.heap.size w W1) := HB.out.trans (hb1.mono HB.out.size); clear hb1 hcl)
      exact ⟨⟨k + 1, by go_num, by omega, HB1⟩, by simp [intOf]; omega⟩
end Go.Proofs.Ytokdaapmejccbaa
namespace Go.Proofs.Ytokdaapmejccbaa
open Go.RowKit
set_option linter.unusedVariables false
set_option linter.unusedSimpArgs false
set_option maxRecDepth 20000 in
set_option maxHeartbeats 8000000 in
theorem contains_any (B c : Nat) (M : List St) (k : Nat) (hk : M.length = k) (i p Bx : Nat) (w : World) (hM : M.length ≤ 1000000) (hB : B < w.heap.size) (hL : StAt w B M) (hl : Bx < w.heap.size) (h0 : w.cell? ⟨Bx, 0, none⟩ = some (.int .i64 (i : Int))) (h1 : w.cell? ⟨Bx, 1, none⟩ = some (.int .i64 (p : Int))) (hno : ∀ y ∈ M, y.1 ≠ (i, p)) :
    Calls Try.prog 34 #[.slice (some ⟨B, 0, none⟩) k c, .func (.func 35) #[] #[.pointer (some ⟨Bx, 0, none⟩)]] w fun r W' => r = .returned (.bool false) ∧ Below w.heap.size w W' := by
  have hi := idx_any B c M i p Bx w hM hB hL hl h0 h1 hno
  rw [hk] at hi
  clear hL h0 h1 hno hM
  go_enter Try.func34, Try.ntmps34
  go_wp2_with (go_at_call 64; refine hi.mono ?_; rintro e1 W1 ⟨rfl, hb1⟩)
  exact bodyPost_ret (by simp [results, Try.results34, go_sem]) rfl ⟨rfl, hb1⟩
theorem stL_at : ∀ (L : List St) (k j : Nat) (y : St), L[k]? = some y → j < 4 → (stL L)[k * 4 + j]? = (stc y)[j]?
  | [], k, j, y, h, _ => by simp at h
  | a :: r, 0, j, y, h, hj => by
    simp at h; subst h
    rw [show stL (a :: r) = stc a ++ stL r from rfl, Nat.zero_mul, Nat.zero_add, List.getElem?_append_left (by rw [stc_len]; exact hj)]
  | a :: r, k + 1, j, y, h, hj => by
    rw [show stL (a :: r) = stc a ++ stL r from rfl, List.getElem?_append_right (by rw [stc_len]; omega), stc_len, show (k + 1) * 4 + j - 4 = k * 4 + j from by omega]
    exact stL_at r k j y (by simpa using h) hj
theorem row_at {w : World} {base : Nat} {sv : Value} {L : List St} (h : w.ownsRow base 43 4 sv L.length (stL L)) (hl : 1 ≤ L.length) : ∃ B c, sv = .slice (some ⟨B, 0, none⟩) L.length c ∧ B < w.heap.size ∧ L.length ≤ c ∧ StAt w B L := by
  have hlt := h.lt
  have hc := fun g hg => World.ownsRow.cells h (g := g) hg
  rcases h.2 with ⟨-, h0⟩ | ⟨g, cap, cur, rfl, -, -, hcp, -⟩
  · omega
  · refine ⟨g, cap, rfl, (hlt g rfl).2, hcp, fun k y hy => ?_⟩
    obtain ⟨z, n, hzn⟩ := oc_form y.1.2 y.2
    have hst : stc y = [.int .i64 (y.1.1 : Int), .int .i64 (y.1.2 : Int), .bool z, .int .i64 n] := by
      show [.int .i64 (y.1.1 : Int), .int .i64 (y.1.2 : Int)] ++ (ocells y.1.2 y.2).toList = _
      rw [hzn]; rfl
    have hk := fun j (u : Value) (hj : j < 4) (hu : (stc y)[j]? = some u) => hc g rfl (k * 4 + j) u ((stL_at L k j y hy hj).trans hu)
    simp only [Addr.add_lit, Nat.zero_add] at hk
    rw [hst] at hk
    exact ⟨z, n, hzn, hk 0 _ (by omega) rfl, hk 1 _ (by omega) rfl, hk 2 _ (by omega) rfl, hk 3 _ (by omega) rfl⟩
theorem lit_pack (g : Gr) (hg : g.rules = [(na, elit nx)]) (W : World) (hin : g.In W.heap.size W) :
    Calls Try.prog 20 #[g.val, .string ⟨#[120]⟩] W fun r W' => ∃ B c, r = .returned (.tuple #[.agg #[.bool true, .int .i64 1], .slice (some ⟨B, 0, none⟩) 1 c, .int .i64 0]) ∧ Below W.heap.size W W' ∧ Calls Try.prog 21 #[.slice (some ⟨B, 0, none⟩) 1 c, .slice (some ⟨W'.heap.size + 1, 0, none⟩) 1 1] ((W'.alloc (.cells #[.bool true, .int .i64 1] 29)).alloc (.cells #[.int .i64 0, .int .i64 0, .bool true, .int .i64 1] 43)) fun r W2 => r = .returned (.bool true) ∧ Below ((W'.alloc (.cells #[.bool true, .int .i64 1] 29)).alloc (.cells #[.int .i64 0, .int .i64 0, .bool true, .int .i64 1] 43)).heap.size ((W'.alloc (.cells #[.bool true, .int .i64 1] 29)).alloc (.cells #[.int .i64 0, .int .i64 0, .bool true, .int .i64 1] 43)) W2 := by
  have hW := lit_w9 g nx hg fx
  have hr : g.rules[0]? = some (na, elit nx) := by rw [hg]; rfl
  obtain ⟨o, L, hP⟩ := pk_ex hW ⟨#[120]⟩ (by decide) hr (p := 0) (Nat.zero_le _)
  obtain ⟨r1, f1, n1, hr1, hf1, hfew⟩ := pk_few hW (by decide) (Nat.zero_le _) hP
  rw [hr] at hr1
  cases hr1
  have hle := lit_ev g [120] nx 0
  rw [leaf_x] at hle
  obtain ⟨rfl, rfl⟩ := Evs.same (s := [120]) ⟨f1, hf1⟩ ⟨1, hle⟩
  obtain ⟨r, f, n, M, -, -, -, hL, -⟩ := hP.ex
  have hM : M = [] := by
    have h6 : (M ++ [((0, 0), some 1)]).length ≤ 1 := hL ▸ hfew
    rw [List.length_append, List.length_singleton] at h6
    exact List.eq_nil_of_length_eq_zero (by omega)
  rw [hM, List.nil_append] at hL
  refine (packRun_ok g ⟨#[120]⟩ hW rfl hP W hin).mono ?_
  rintro e W' ⟨sv, rfl, hb, hrow⟩
  obtain ⟨B, c, rfl, hB, -, hS⟩ := row_at hrow (by rw [hL]; simp)
  have hA := ((Below.refl W'.heap.size W').alloc (Nat.le_refl _) (.cells #[.bool true, .int .i64 1] 29)).alloc (by simp) (.cells #[.int .i64 0, .int .i64 0, .bool true, .int .i64 1] 43)
  obtain ⟨z, n2, hz, k0, k1, k2, k3⟩ := (hS.below hA hB) 0 ((0, 0), some 1) (by rw [hL]; rfl)
  have h5 : z = true ∧ n2 = 1 := by
    simp [ocells] at hz
    first
      | exact ⟨hz.1, hz.2⟩
      | exact ⟨hz.1, hz.2.symm⟩
  obtain ⟨rfl, rfl⟩ := h5
  have h4 := BoxN.new (W'.alloc (.cells #[.bool true, .int .i64 1] 29)) 43 #[.int .i64 0, .int .i64 0, .bool true, .int .i64 1]
  rw [World.size_alloc] at h4
  have hlen : L.length = 1 := by rw [hL]; rfl
  rw [hlen]
  exact ⟨B, c, rfl, hb, seq_any B (W'.heap.size + 1) c 1 0 0 1 true _ (by simp; omega) (by simp) ⟨by simpa using k0, by simpa using k1, by simpa using k2, by simpa using k3⟩ ⟨h4.cell 0, h4.cell 1, h4.cell 2, h4.cell 3⟩⟩
/-- What is remembered of a rule at a place is what comes of it. -/
theorem pk_each {g : Gr} {n9 : Int} (h : W9 g n9 0) {T : ByteArray} (hT : T.size ≤ 60) {i p : Nat} {o : Ot} {L : List St} (hP : PkS g T i p o L) {k : Nat} {y : St} (hy : L[k]? = some y) : y.1.1 < g.rules.length ∧ y.1.2 ≤ T.size ∧ (∃ M, PkS g T y.1.1 y.1.2 y.2 M) ∧ ∀ x ∈ L.take k, x.1 ≠ (y.1.1, y.1.2) := by
  obtain ⟨h1, h2, r, m, h3, h4⟩ := hP.inn y (List.mem_of_getElem? hy)
  refine ⟨h1, h2, ?_, fun x hx e => ?_⟩
  · obtain ⟨o2, M, hM⟩ := pk_ex h T hT h3 h2
    obtain ⟨r', f, n, N, hr', hf, -⟩ := hM.ex
    rw [h3] at hr'
    cases hr'
    obtain ⟨rfl, -⟩ := h4.same ⟨f, hf⟩
    exact ⟨M, hM⟩
  · have hnd := ((Rm_iff L).1 hP.rm).2
    have hk := (List.getElem?_eq_some_iff.1 hy)
    rw [← List.take_append_drop k L, List.map_append, List.nodup_append] at hnd
    have hd : y ∈ L.drop k := by
      rw [List.drop_eq_getElem_cons hk.1, hk.2]
      exact List.mem_cons_self ..
    exact hnd.2.2 x.1 (List.mem_map.2 ⟨x, hx, rfl⟩) y.1 (List.mem_map.2 ⟨y, hd, rfl⟩) e
set_option maxRecDepth 20000 in
set_option maxHeartbeats 8000000 in
theorem packOnce_any (g : Gr) (T : ByteArray) (w : World) (hin : g.In w.heap.size w) :
    Calls Try.prog 12 #[g.val, .string T] w fun r W' => r = .returned (.bool true) ∧ Below w.heap.size w W' := by
  obtain ⟨n9, e9, h9⟩ := w9_ex g
  have HB : Hid (Gbx g w _) := Gbx.new g w
  have hl := lit_any nx
  have h1 := fun W hin => one_any (elit nx) W hin
  have hv : (elit nx).val = _ := exo_val 3 nx none 0 []
  have HX : Hid (∀ W, (elit nx).In W.heap.size W) := fun W => by
    unfold elit exo
    rw [Ex.In]
    exact ⟨⟨by simp, by decide⟩, by rw [Ex.In.InL]; trivial⟩
  have hq := fun a b x y W => eq_oc a b x y W
  rw [hv] at h1
  rw [show (exo 3 nx none 0 []).val = _ from hv] at hl
  unfold nx at hl h1
  clear hv
  by_cases h0 : lkE T e9 = 0
  · obtain ⟨rfl, hT⟩ := lkE_zero h0
    obtain ⟨-, -, hok, -, -⟩ := h9.ok
    obtain ⟨r0, hr0⟩ : ∃ r, g.rules[0]? = some r := ⟨_, List.getElem?_eq_getElem hok.pos⟩
    obtain ⟨o, L, hP⟩ := pk_ex h9 T hT hr0 (p := 0) (Nat.zero_le _)
    have hp := fun (W : World) (hb : Below w.heap.size w W) => packRun_ok g T h9 h0 hP W (hin.grow hb)
    have hlL : L.length ≤ 1000000 := ((Rm_iff L).1 hP.rm).1
    have HE : Hid (∀ (k : Nat) (y : St), L[k]? = some y → y.1.1 < g.rules.length ∧ y.1.2 ≤ T.size ∧ (∃ M, PkS g T y.1.1 y.1.2 y.2 M) ∧ ∀ x ∈ L.take k, x.1 ≠ (y.1.1, y.1.2)) := fun k y hy => pk_each h9 hT hP hy
    have HAT : Hid (∀ (i p : Nat) (o : Ot) (M : List St), i < g.rules.length → p ≤ T.size → PkS g T i p o M → ∀ W, Below w.heap.size w W → Calls Try.prog 23 #[g.val, .int .i64 (i : Int), .string T, .int .i64 (p : Int)] W fun r W' => r = .returned (.tuple #[oval p o, .int .i64 0]) ∧ Below W.heap.size W W') := fun i p o M hi hp hM W hb => packAt_ok g T h9 h0 hi hp hM W (hin.grow hb)
    obtain ⟨r1, f1, n1, M1, -, -, -, hL, -⟩ := hP.ex
    have hmf : ∀ (fn : Fn) (first cap : Array Value) (w : World), (Instr.makeFunc fn first cap).run Try.prog w = .ok (.func fn first cap) w := fun _ _ _ _ => rfl
    rw [gval_eq] at hp HAT ⊢
    unfold oval at hp
    obtain ⟨z, n, hzn⟩ := oc_form 0 o
    rw [hzn] at hp
    have HLAST : Hid (L[M1.length]? = some ((0, 0), o) ∧ L.length = M1.length + 1 ∧ ocells 0 o = #[.bool z, .int .i64 n]) := ⟨by rw [hL]; simp, by rw [hL]; simp, hzn⟩
    clear h9 hin h0 hok hr0 hP hL hzn
    go_enter Try.func12, Try.ntmps12
    go_wp2_with (first
      | (go_at_call 26; refine (hl _).mono ?_; rintro e1 W1 ⟨rfl, hb1⟩; have HB1 : Hid _ := HB.out.step hb1; have h11 := h1 W1 (HX.out W1); clear hb1 hl h1 HX)
      | (go_at_call 25; refine h11.mono ?_; rintro e2 W2 ⟨g1, rfl, hg1, hin1, hb2⟩; have HB2 : Hid _ := HB1.out.step hb2; have h20 := lit_pack g1 hg1 W2 hin1; rw [gval_eq] at h20; clear hb2 h11 HB1)
      | (go_at_call 20; refine h20.mono ?_; rintro e3 W3 ⟨B3, c3, rfl, hb3, h21⟩; have HB3 : Hid (Gbx g w ((W3.alloc (.cells #[.bool true, .int .i64 1] 29)).alloc (.cells #[.int .i64 0, .int .i64 0, .bool true, .int .i64 1] 43))) := ((HB2.out.step hb3).alloc _).alloc _; clear hb3 h20 HB2)
      | (go_at_call 21; refine h21.mono ?_; rintro e4 W4 ⟨rfl, hb4⟩; have HB4 : Hid _ := HB3.out.step hb4; have c4 := HB4.out.cell; have hp4 := hp _ HB4.out.bel; clear hb4 h21 HB3)
      | (go_at_call 20; refine hp4.mono ?_; rintro e5 W5 ⟨sv, rfl, hb5, hrow⟩; obtain ⟨B, cap, rfl, hB5, hcap, hS5⟩ := row_at hrow (by have := HLAST.out.2.1; omega); have HB5 : Hid (Gbx g w (W5.alloc (.cells #[.bool z, .int .i64 n] 29))) := (HB4.out.step hb5).alloc _; have HS5 : Hid (StAt (W5.alloc (.cells #[.bool z, .int .i64 n] 29)) B L ∧ B < W5.heap.size) := ⟨hS5.below ((Below.refl _ _).alloc (Nat.le_refl _) _) hB5, hB5⟩; have HO5 : Hid (BoxN (W5.alloc (.cells #[.bool z, .int .i64 n] 29)) W5.heap.size 29 #[.bool z, .int .i64 n]) := BoxN.new W5 29 _; clear hb5 hrow hp4 HB4 c4 hS5))
    clear hp
    have HBV : Hid (Gbx g w (W5.alloc (.cells #[.bool z, .int .i64 n] 29))) := HB5
    have HVs : Hid (B < (W5.alloc (.cells #[.bool z, .int .i64 n] 29)).heap.size ∧ W5.heap.size < (W5.alloc (.cells #[.bool z, .int .i64 n] 29)).heap.size) := by have := HS5.out.2; exact ⟨by simp; omega, by simp⟩
    generalize hV : W5.alloc (.cells #[.bool z, .int .i64 n] 29) = V at *
    go_loopw [46] (fun p wr => ∃ k : Nat, p = .int .i64 (k : Int) ∧ k ≤ L.length ∧ Hid (Below V.heap.size V wr)) (fun p _ => L.length - (intOf p).toNat)
    case atStart => exact ⟨0, rfl, by omega, Below.refl _ V⟩
    case round =>
      obtain ⟨k, rfl, hk, HQ⟩ := hrel
      have hsz := HQ.out.size
      have hVB := HVs.out
      by_cases hke : k = L.length
      · have g1 : decide ((k : Int) < (L.length : Int)) = false := by simp; omega
        subst hke
        obtain ⟨z2, n2, hz2, d0, d1, d2, d3⟩ := (HS5.out.1.below HQ.out hVB.1) _ _ HLAST.out.1
        have hz3 := HLAST.out.2.2
        rw [hz3] at hz2
        simp only [Array.mk.injEq, List.cons.injEq, Value.bool.injEq, Value.int.injEq, true_and, and_true] at hz2
        obtain ⟨rfl, rfl⟩ := hz2
        have b0 := (HO5.out.below HQ.out hVB.2).cell 0
        have b1 := (HO5.out.below HQ.out hVB.2).cell 1
        simp only [List.getElem?_toArray, List.getElem?_cons_zero, List.getElem?_cons_succ] at b0 b1 d0 d1 d2 d3
        have hm1 := HLAST.out.2.1
        have hs := fun a b n z W => eq_st a b n z W
        have HFIN : Hid (Below w.heap.size w wr) := HBV.out.bel.trans (HQ.out.mono HBV.out.bel.size)
        have hw : wrap64 (M1.length : Int) = (M1.length : Int) := by unfold wrap64; omega
        have hw2 : IntKind.i64.wrap (M1.length : Int) = (M1.length : Int) := by simp [IntKind.wrap, IntKind.bits, IntKind.signed]; omega
        have i0 : (0 : Int) ≤ (M1.length : Int) := by omega
        have i1 : (M1.length : Int) < (M1.length : Int) + 1 := by omega
        have i2 : (M1.length : Int).toNat = M1.length := by omega
        have i3 : (0 : Int) < (M1.length : Int) + 1 := by omega
        rw [hm1] at g1 ⊢
        clear hsz hVB hk HE HAT hz3 hm1 hlL
        go_wp2_with fail
        go_region
        all_goals
          go_wp2_with fail
          exact bodyPost_ret (by simp [results, Try.results12, go_sem]) rfl ⟨rfl, HFIN.out.drew⟩
      · have g1 : decide ((k : Int) < (L.length : Int)) = true := by simp; omega
        have hkl : k < L.length := by omega
        obtain ⟨y, hy⟩ : ∃ y, L[k]? = some y := ⟨_, List.getElem?_eq_getElem hkl⟩
        obtain ⟨hi, hpp, ⟨M, hM⟩, hno⟩ := HE.out k y hy
        have hSw := HS5.out.1.below HQ.out hVB.1
        obtain ⟨z2, n2, hz2, d0, d1, d2, d3⟩ := hSw k y hy
        have hat := HAT.out _ _ _ M hi hpp hM
        unfold oval at hat
        rw [hz2] at hat
        have hA := (Below.refl wr.heap.size wr).alloc (Nat.le_refl _) (.cells #[.int .i64 (y.1.1 : Int), .int .i64 (y.1.2 : Int), .bool z2, .int .i64 n2] 43)
        have hbx := BoxN.new wr 43 #[.int .i64 (y.1.1 : Int), .int .i64 (y.1.2 : Int), .bool z2, .int .i64 n2]
        have hcon := contains_any B cap (L.take k) k (by simp; omega) y.1.1 y.1.2 wr.heap.size _ (by simp; omega) (Nat.lt_of_lt_of_le hVB.1 (Nat.le_trans hsz hA.size)) ((show StAt wr B (L.take k) from fun j y' h' => hSw j y' (by
          rw [List.getElem?_take] at h'
          split at h'
          · exact h'
          · cases h')).below hA (Nat.lt_of_lt_of_le hVB.1 hsz)) (by simp) (hbx.cell 0) (hbx.cell 1) hno
        have HQA : Hid (Below V.heap.size V _ ∧ BoxN _ wr.heap.size 43 _) := ⟨HQ.out.trans (hA.mono hsz), hbx⟩
        have HGW : Hid (∀ W, Below V.heap.size V W → Below w.heap.size w W ∧ W.cell? ⟨w.heap.size, 0, none⟩ = some (.slice g.a g.rules.length g.c)) := fun W hb => ⟨HBV.out.bel.trans (hb.mono HBV.out.bel.size), (HBV.out.step hb).cell⟩
        have hkc : k ≤ cap := by omega
        have q6 : ¬ (cap : Int) < (k : Int) := by omega
        have q7 : ¬ (k : Int) < 0 := by omega
        generalize y.1.1 = yi at *
        generalize y.1.2 = yp at *
        clear hz2 hM hno hy hi hSw hA hbx HE HAT hVB hsz HLAST
        go_wp2_with (first
          | (go_at_call 34; refine hcon.mono ?_; rintro e6 W6 ⟨rfl, hb6⟩; have HQ6 : Hid (Below V.heap.size V W6 ∧ BoxN W6 wr.heap.size 43 #[.int .i64 (yi : Int), .int .i64 (yp : Int), .bool z2, .int .i64 n2]) := ⟨HQA.out.1.trans (hb6.mono HQA.out.1.size), HQA.out.2.below hb6 HQA.out.2.lt⟩; have x0 := HQ6.out.2.cell 0; have x1 := HQ6.out.2.cell 1; simp only [List.getElem?_toArray, List.getElem?_cons_zero, List.getElem?_cons_succ] at x0 x1; have c6 := (HGW.out _ HQ6.out.1).2; have h23 := hat _ (HGW.out _ HQ6.out.1).1; clear hb6 hcon hat)
          | (go_at_call 23; refine h23.mono ?_; rintro e7 W7 ⟨rfl, hb7⟩; have HQ7 : Hid (Below V.heap.size V (W7.alloc (.cells #[.bool z2, .int .i64 n2] 29)) ∧ BoxN (W7.alloc (.cells #[.bool z2, .int .i64 n2] 29)) wr.heap.size 43 #[.int .i64 (yi : Int), .int .i64 (yp : Int), .bool z2, .int .i64 n2]) := ⟨(HQ6.out.1.trans (hb7.mono HQ6.out.1.size)).alloc (HQ6.out.1.trans (hb7.mono HQ6.out.1.size)).size _, (HQ6.out.2.below hb7 HQ6.out.2.lt).alloc _⟩; have x2 := HQ7.out.2.cell 2; have x3 := HQ7.out.2.cell 3; simp only [List.getElem?_toArray, List.getElem?_cons_zero, List.getElem?_cons_succ] at x2 x3; clear hb7 h23 x0 x1 c6))
        exact ⟨⟨k + 1, by go_num, by omega, HQ7.out.1⟩, by simp [intOf]; omega⟩
  · have hp := fun (W : World) (hb : Below w.heap.size w W) => packRun_bad g T h9 h0 W (hin.grow hb)
    rw [gval_eq] at hp ⊢
    unfold oval ocells at hp
    generalize lkE T e9 = kk at *
    have q1 : (kk != 0) = true := by simpa using h0
    clear h9 hin
    go_enter Try.func12, Try.ntmps12
    go_wp2_with (first
      | (go_at_call 26; refine (hl _).mono ?_; rintro e1 W1 ⟨rfl, hb1⟩; have HB1 : Hid _ := HB.out.step hb1; have h11 := h1 W1 (HX.out W1); clear hb1 hl h1 HX)
      | (go_at_call 25; refine h11.mono ?_; rintro e2 W2 ⟨g1, rfl, hg1, hin1, hb2⟩; have HB2 : Hid _ := HB1.out.step hb2; have h20 := lit_pack g1 hg1 W2 hin1; rw [gval_eq] at h20; clear hb2 h11 HB1)
      | (go_at_call 20; refine h20.mono ?_; rintro e3 W3 ⟨B3, c3, rfl, hb3, h21⟩; have HB3 : Hid (Gbx g w ((W3.alloc (.cells #[.bool true, .int .i64 1] 29)).alloc (.cells #[.int .i64 0, .int .i64 0, .bool true, .int .i64 1] 43))) := ((HB2.out.step hb3).alloc _).alloc _; clear hb3 h20 HB2)
      | (go_at_call 21; refine h21.mono ?_; rintro e4 W4 ⟨rfl, hb4⟩; have HB4 : Hid _ := HB3.out.step hb4; have c4 := HB4.out.cell; have hp4 := hp _ HB4.out.bel; clear hb4 h21 HB3)
      | (go_at_call 20; refine hp4.mono ?_; rintro e5 W5 ⟨rfl, hb5⟩; have HB5 : Hid (Gbx g w (W5.alloc (.cells #[.bool false, .int .i64 0] 29))) := (HB4.out.step hb5).alloc _; clear hb5 hp4 HB4 c4))
    exact bodyPost_ret (by simp [results, Try.results12, go_sem]) rfl ⟨rfl, HB5.out.bel⟩
end Go.Proofs.Ytokdaapmejccbaa
