import Derived.Test.YtokdaapmejccbaaXMeC
import Derived.Test.YtokdaapmejccbaaXOneG
import Derived.Laws.StructEq
namespace Go.Proofs.Ytokdaapmejccbaa
open Go.RowKit
set_option linter.unusedVariables false
set_option linter.unusedSimpArgs false
/-- What comes of the first rule, where all is well. -/
def Sem0 (g : Gr) (T : ByteArray) (e : Int) (o : Ot) (n : Nat) : Prop := lkE T e = 0 → ∃ r0 f, g.rules[0]? = some r0 ∧ ev g T.data.toList f r0.2 0 = some (o, n)
theorem sem_ex (g : Gr) (T : ByteArray) {n9 e : Int} (h : W9 g n9 e) : ∃ o n, Sem0 g T e o n := by
  by_cases h0 : lkE T e = 0
  · obtain ⟨rfl, hT⟩ := lkE_zero h0
    obtain ⟨-, -, hok, hB, lf, hW⟩ := h.ok
    obtain ⟨r0, hr0⟩ : ∃ r, g.rules[0]? = some r := ⟨_, List.getElem?_eq_getElem hok.pos⟩
    have hm := List.mem_of_getElem? hr0
    obtain ⟨o, n, ⟨f, hf⟩, -⟩ := evs_ex (s := T.data.toList) hW (hB r0 hm) (hW.nolp r0 hm) (p := 0) (Nat.zero_le _)
    exact ⟨o, n, fun _ => ⟨r0, f, hr0, hf⟩⟩
  · exact ⟨none, 0, fun h => absurd h h0⟩
/-- What mean.Run answers. -/
def mrun (T : ByteArray) (e : Int) (o : Ot) (n : Nat) (steps : Int) : Value :=
  if lkE T e ≠ 0 then .tuple #[oval 0 none, .int .i64 0, .int .i64 (lkE T e)] else if steps < 0 ∨ 1048576 < steps then .tuple #[oval 0 none, .int .i64 0, .int .i64 1] else anR steps.toNat o n
theorem an_form (most : Nat) (o : Ot) (n : Nat) : ∃ z k m e, anR most o n = .tuple #[.agg #[.bool z, .int .i64 k], .int .i64 m, .int .i64 e] := by
  unfold anR
  split
  · obtain ⟨z, k, h⟩ := oc_form 0 o
    unfold oval
    rw [h]
    exact ⟨_, _, _, _, rfl⟩
  · exact ⟨_, _, _, _, rfl⟩
set_option maxRecDepth 20000 in
set_option maxHeartbeats 4000000 in
theorem mrun_any (g : Gr) (T : ByteArray) (steps : Int) {n9 e : Int} (h : W9 g n9 e) {o : Ot} {n : Nat} (hS : Sem0 g T e o n) (hs : -9223372036854775808 ≤ steps ∧ steps ≤ 9223372036854775807) (w : World) (hin : g.In w.heap.size w) :
    Calls Try.prog 16 #[g.val, .string T, .int .i64 steps] w fun r W' => r = .returned (mrun T e o n steps) ∧ Below w.heap.size w W' := by
  have hA := ((Below.refl w.heap.size w).alloc (Nat.le_refl _) (.cells #[.slice g.a g.rules.length g.c] 24)).alloc (by simp) (.cells #[.bool false, .int .i64 0] 29)
  have hL := look_any g T h _ (hin.grow hA)
  have hbG := (BoxN.new w 24 #[.slice g.a g.rules.length g.c]).alloc (.cells #[.bool false, .int .i64 0] 29)
  have hbq : Bq w (w.heap.size + 1) #[.bool false, .int .i64 0] ((w.alloc (.cells #[.slice g.a g.rules.length g.c] 24)).alloc (.cells #[.bool false, .int .i64 0] 29)) := by
    have := Bq.new ((Below.refl w.heap.size w).alloc (Nat.le_refl _) (.cells #[.slice g.a g.rules.length g.c] 24))
    rwa [World.size_alloc] at this
  have HQ : Hid (Bq w (w.heap.size + 1) #[.bool false, .int .i64 0] _ ∧ BoxN _ w.heap.size 24 #[.slice g.a g.rules.length g.c]) := ⟨hbq, hbG⟩
  have hin' : ∀ W, Below w.heap.size w W → g.In W.heap.size W := fun W hb => hin.grow hb
  rw [gval_eq] at hL ⊢
  unfold mrun
  by_cases h0 : lkE T e = 0
  · rw [if_neg (by simpa using h0)]
    obtain ⟨rfl, hT⟩ := lkE_zero h0
    obtain ⟨-, -, hok, hB, -⟩ := h.ok
    rw [h0] at hL
    by_cases h1 : steps < 0
    · rw [if_pos (.inl h1)]
      unfold oval ocells
      clear hin' hS h hin hbG hbq hA
      go_enter Try.func16, Try.ntmps16
      go_wp2_with (first
        | (go_at_call 14; refine hL.mono ?_; rintro e1 W1 ⟨rfl, hb1⟩; have HB1 : Hid _ := HQ.out.1.step hb1; clear hb1)
        | (refine wpList_store_box rfl 29 _ _ rfl (w.heap.size + 1) _ rfl rfl _ HB1.out.box Try.info29 rfl (by simp [Value.oneCell']) ?_; intro w5 hx5 hg5; have hc := hx5.cell; have HB5 : Hid _ := HB1.out.fin hx5 hg5))
      exact bodyPost_ret (by simp [results, Try.results16, go_sem, hc]) rfl ⟨rfl, HB5.out.bel⟩
    · by_cases h2 : 1048576 < steps
      · rw [if_pos (.inr h2)]
        unfold oval ocells
        clear hin' hS h hin hbG hbq hA
        go_enter Try.func16, Try.ntmps16
        go_wp2_with (first
          | (go_at_call 14; refine hL.mono ?_; rintro e1 W1 ⟨rfl, hb1⟩; have HB1 : Hid _ := HQ.out.1.step hb1; clear hb1)
          | (refine wpList_store_box rfl 29 _ _ rfl (w.heap.size + 1) _ rfl rfl _ HB1.out.box Try.info29 rfl (by simp [Value.oneCell']) ?_; intro w5 hx5 hg5; have hc := hx5.cell; have HB5 : Hid _ := HB1.out.fin hx5 hg5))
        exact bodyPost_ret (by simp [results, Try.results16, go_sem, hc]) rfl ⟨rfl, HB5.out.bel⟩
      · rw [if_neg (by omega)]
        obtain ⟨r0, f, hr0, hev⟩ := hS h0
        obtain ⟨most, rfl⟩ : ∃ most : Nat, steps = most := ⟨steps.toNat, by omega⟩
        have han := fun W hb => anew_any g hB T hT most (by omega) r0 hr0 f o n hev W (hin' W hb)
        rw [show ((most : Int)).toNat = most from rfl]
        obtain ⟨z, k, m, e2, hz⟩ := an_form most o n
        rw [hz] at han ⊢
        clear hin' hS h hin hbG hbq hA hev hr0 hz
        go_enter Try.func16, Try.ntmps16
        go_wp2_with (first
          | (go_at_call 14; refine hL.mono ?_; rintro e1 W1 ⟨rfl, hb1⟩; have HB1 : Hid (Bq w (w.heap.size + 1) _ W1 ∧ BoxN W1 w.heap.size 24 _) := ⟨HQ.out.1.step hb1, HQ.out.2.below hb1 HQ.out.2.lt⟩; have c0 := HB1.out.2.cell 0; simp only [List.getElem?_toArray, List.getElem?_cons_zero] at c0; clear hb1)
          | (go_at_call 43; refine (han _ HB1.out.1.bel).mono ?_; rintro e1 W2 ⟨rfl, hb2⟩; have HB2 : Hid _ := HB1.out.1.step hb2; clear hb2)
          | (refine wpList_store_box rfl 29 _ _ rfl (w.heap.size + 1) _ rfl rfl _ HB2.out.box Try.info29 rfl (by simp [Value.oneCell']) ?_; intro w5 hx5 hg5; have hc := hx5.cell; have HB5 : Hid _ := HB2.out.fin hx5 hg5))
        exact bodyPost_ret (by simp [results, Try.results16, go_sem, hc]) rfl ⟨rfl, HB5.out.bel⟩
  · rw [if_pos h0]
    generalize lkE T e = k at *
    have g1 : (k != 0) = true := by simpa using h0
    unfold oval ocells
    clear hin' hS h hin hbG hbq hA
    go_enter Try.func16, Try.ntmps16
    go_wp2_with (first
      | (go_at_call 14; refine hL.mono ?_; rintro e1 W1 ⟨rfl, hb1⟩; have HB1 : Hid _ := HQ.out.1.step hb1; clear hb1)
      | (refine wpList_store_box rfl 29 _ _ rfl (w.heap.size + 1) _ rfl rfl _ HB1.out.box Try.info29 rfl (by simp [Value.oneCell']) ?_; intro w5 hx5 hg5; have hc := hx5.cell; have HB5 : Hid _ := HB1.out.fin hx5 hg5))
    exact bodyPost_ret (by simp [results, Try.results16, go_sem, hc]) rfl ⟨rfl, HB5.out.bel⟩
end Go.Proofs.Ytokdaapmejccbaa
namespace Go.Proofs.Ytokdaapmejccbaa
open Go.RowKit
set_option linter.unusedVariables false
set_option linter.unusedSimpArgs false
set_option maxRecDepth 20000 in
theorem eq_oc (a b : Bool) (x y : Int) (w : World) : Sem.run Try.prog (Op.equalIn 10000 29 (.agg #[.bool a, .int .i64 x]) (.agg #[.bool b, .int .i64 y])) w = .ok (a == b && x == y) w := by
  have h1 : Try.prog.underlying 29 = some (.struct (Try.prog.fieldsOf 29)) := by kernel_rfl
  have h2 : Try.prog.stoodInHeld 29 = false := by kernel_rfl
  rw [show (10000 : Nat) = 9999 + 1 from rfl, run_equalIn_struct w 9999 29 _ _ h1 h2]
  have h5 := Try.underlying29
  rw [h1, Option.some.injEq, TypeDesc.struct.injEq] at h5
  rw [h5]
  have pe : ∀ (a b : Bool) (w : World), (Op.equalIn 9999 4 (.bool a) (.bool b)).run Try.prog w = .ok (a == b) w := fun a b w => run_equalIn_bool w 9998 4 a b Try.underlying4
  have pi : ∀ (a b : Int) (w : World), (Op.equalIn 9999 3 (.int .i64 a) (.int .i64 b)).run Try.prog w = .ok (a == b) w := fun a b w => run_equalIn_int w 9998 3 .i64 .i64 a b Try.underlying3
  have p0 : ∀ (u v : Value) (w : World), (Go.part 4 #[u, v] 0).run Try.prog w = .ok u w := fun u v w => by simp [Go.part, Go.isAgg, run_underlying Try.underlying4]
  have p1 : ∀ (u v : Value) (w : World), (Go.part 3 #[u, v] 1).run Try.prog w = .ok v w := fun u v w => by simp [Go.part, Go.isAgg, run_underlying Try.underlying3]
  simp [Op.eqFields, p0, p1, pe, pi]
  by_cases e1 : a = b <;> by_cases e2 : x = y <;> simp [e1, e2]
theorem within_any (a : Int) (n : Nat) (hn : 1 ≤ n) (hn2 : n ≤ 1048577) (w : World) (ha : -9223372036854775808 ≤ a ∧ a ≤ 9223372036854775807) :
    Calls Try.prog 33 #[.int .i64 a, .int .i64 (n : Int)] w fun r W' => ∃ k : Nat, k < n ∧ r = .returned (.int .i64 (k : Int)) ∧ W' = w := by
  go_enter Try.func33, Try.ntmps33
  go_wp2_with fail
  go_ret
  have h0 : 0 ≤ IntKind.u64.wrap a := by simp [IntKind.wrap, IntKind.bits, IntKind.signed]; omega
  have h1 : (IntKind.u64.wrap a).tmod (n : Int) = (IntKind.u64.wrap a) % (n : Int) := Int.tmod_eq_emod_of_nonneg h0
  have h2 := Int.emod_nonneg (IntKind.u64.wrap a) (show (n : Int) ≠ 0 by omega)
  have h3 := Int.emod_lt_of_pos (IntKind.u64.wrap a) (show (0 : Int) < n by omega)
  rw [h1]
  generalize IntKind.u64.wrap a % (n : Int) = m at *
  have h4 : wrap64 m = m := by unfold wrap64; omega
  exact ⟨m.toNat, by omega, by simp [h4, Int.toNat_of_nonneg h2, Array.getD], rfl⟩
/-- Steps are taken. -/
theorem ev_pos (g : Gr) (s : List UInt8) (f : Nat) (e : Ex) (p : Nat) (o : Ot) (n : Nat) (h : ev g s f e p = some (o, n)) : 1 ≤ n := (tryG_an g s 0 f e p o n 0 h (Nat.le_refl _)).1
/-- Of the literal x on x. -/
theorem leaf_x : leafE [120] (elit nx) 0 = some 1 := by
  unfold leafE elit exo nx
  simp [Ex.k, Ex.t]
  decide
theorem lk0 (T : ByteArray) (h : T.size ≤ 60) : lkE T 0 = 0 := by unfold lkE; rw [if_neg (by simp), if_neg (by omega)]
theorem one_run (g : Gr) (hg : g.rules = [(na, elit nx)]) (w : World) (hin : g.In w.heap.size w) : Calls Try.prog 16 #[g.val, .string ⟨#[120]⟩, .int .i64 9] w fun r W' => r = .returned (.tuple #[.agg #[.bool true, .int .i64 1], .int .i64 1, .int .i64 0]) ∧ Below w.heap.size w W' := by
  have h9 := lit_w9 g nx hg fx
  have hS : Sem0 g ⟨#[120]⟩ 0 (some 1) 1 := fun _ => ⟨(na, elit nx), 1, by rw [hg]; rfl, by
    show ev g [120] 1 (elit nx) 0 = _
    rw [lit_ev, leaf_x]⟩
  have := mrun_any g ⟨#[120]⟩ 9 h9 hS (by omega) w hin
  unfold mrun at this
  rw [lk0 _ (by decide), if_neg (by simp), if_neg (by omega)] at this
  exact this
end Go.Proofs.Ytokdaapmejccbaa
