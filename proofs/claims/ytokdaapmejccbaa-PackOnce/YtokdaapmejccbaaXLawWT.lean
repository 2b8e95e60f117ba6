import Derived.Test.YtokdaapmejccbaaXLawMS
import Derived.Test.YtokdaapmejccbaaXRyA
import Derived.Test.YtokdaapmejccbaaXOneG
import Derived.Laws.StructEq
import Derived.Deep.LoopGhost
import Derived.Test.YtokdaapmejccbaaXSchA
import Derived.Test.YtokdaapmejccbaaXLawMM
namespace Go.Proofs.Ytokdaapmejccbaa
open Go.RowKit
set_option linter.unusedVariables false
set_option linter.unusedSimpArgs false
set_option maxRecDepth 20000 in
theorem eq_fa (a b c : Bool) (w : World) : Sem.run Try.prog (Op.equalIn 10000 61 (.agg #[.bool a, .bool b, .bool c]) (.agg #[.bool a, .bool b, .bool c])) w = .ok true w := by
  have h1 : Try.prog.underlying 61 = some (.struct (Try.prog.fieldsOf 61)) := by kernel_rfl
  have h2 : Try.prog.stoodInHeld 61 = false := by kernel_rfl
  rw [show (10000 : Nat) = 9999 + 1 from rfl, run_equalIn_struct w 9999 61 _ _ h1 h2]
  have h5 := Try.underlying61
  rw [h1, Option.some.injEq, TypeDesc.struct.injEq] at h5
  rw [h5]
  have pe : ∀ (a b : Bool) (w : World), (Op.equalIn 9999 4 (.bool a) (.bool b)).run Try.prog w = .ok (a == b) w := fun a b w => run_equalIn_bool w 9998 4 a b Try.underlying4
  have p0 : ∀ (u v x : Value) (w : World), (Go.part 4 #[u, v, x] 0).run Try.prog w = .ok u w := fun u v x w => by simp [Go.part, Go.isAgg, run_underlying Try.underlying4]
  have p1 : ∀ (u v x : Value) (w : World), (Go.part 4 #[u, v, x] 1).run Try.prog w = .ok v w := fun u v x w => by simp [Go.part, Go.isAgg, run_underlying Try.underlying4]
  have p2 : ∀ (u v x : Value) (w : World), (Go.part 4 #[u, v, x] 2).run Try.prog w = .ok x w := fun u v x w => by simp [Go.part, Go.isAgg, run_underlying Try.underlying4]
  simp [Op.eqFields, p0, p1, p2, pe]
/-- The facts of the literal x. -/
theorem lit_least (m : List Fa) (h : Least fLe 1 (mst [(na, elit nx)]) m) : m = [(false, true, true)] := by
  have hs : ∀ l, mst [(na, elit nx)] l 0 = (false, true, true) := fun l => by
    rw [mst_at (r := (na, elit nx)) rfl]
    unfold elit exo
    rw [may_eq]
    rfl
  refine Least.uniq fLat h ⟨⟨rfl, fun i a ha => ?_⟩, fun q hq => ?_⟩
  · have hi : i = 0 := by have := (List.getElem?_eq_some_iff.1 ha).1; simp at this; omega
    subst hi
    cases ha
    rw [hs]
    exact ⟨fun h => h, fun h => h, fun h => h⟩
  · obtain ⟨y, rfl⟩ := List.length_eq_one_iff.1 hq.len
    refine ⟨rfl, fun i a b ha hb => ?_⟩
    have hi : i = 0 := by have := (List.getElem?_eq_some_iff.1 ha).1; simp at this; omega
    subst hi
    cases ha
    cases hb
    have := hq.all 0 y rfl
    rw [hs] at this
    exact this
/-- What a rule does it may do. -/
theorem pk_told {g : Gr} {n9 : Int} (h : W9 g n9 0) {T : ByteArray} {i p : Nat} (hp : p ≤ T.size) {o : Ot} {L : List St} (hP : PkS g T i p o L) {m : List Fa} (hm : Least fLe g.rules.length (mst g.rules) m) : ∃ F, m[i]? = some F ∧ Does F T.size p o := by
  obtain ⟨-, -, hok, hB, lf, hW⟩ := h.ok
  obtain rfl := hm.uniq fLat hW.may
  obtain ⟨r, f, n, N, hr, hf, -⟩ := hP.ex
  have hmr := List.mem_of_getElem? hr
  obtain ⟨o2, n2, h2, hd⟩ := evs_ex (s := T.data.toList) hW (hB r hmr) (hW.nolp r hmr) (p := p) hp
  obtain ⟨rfl, -⟩ := h2.same ⟨f, hf⟩
  obtain ⟨F, hF⟩ : ∃ F, m[i]? = some F := ⟨_, List.getElem?_eq_getElem (by rw [hm.pre.len]; exact (List.getElem?_eq_some_iff.1 hr).1)⟩
  refine ⟨F, hF, ?_⟩
  have hle := hm.pre.all i F hF
  rw [mst_at hr] at hle
  exact hd.le hle
set_option maxRecDepth 20000 in
set_option maxHeartbeats 4000000 in
theorem feq_any (B1 B2 c1 c2 : Nat) (a b c : Bool) (w : World) (hl1 : B1 < w.heap.size) (hl2 : B2 < w.heap.size)
    (h1 : w.cell? ⟨B1, 0, none⟩ = some (.bool a) ∧ w.cell? ⟨B1, 1, none⟩ = some (.bool b) ∧ w.cell? ⟨B1, 2, none⟩ = some (.bool c)) (h2 : w.cell? ⟨B2, 0, none⟩ = some (.bool a) ∧ w.cell? ⟨B2, 1, none⟩ = some (.bool b) ∧ w.cell? ⟨B2, 2, none⟩ = some (.bool c)) :
    Calls Try.prog 27 #[.slice (some ⟨B1, 0, none⟩) 1 c1, .slice (some ⟨B2, 0, none⟩) 1 c2] w fun r W' => r = .returned (.bool true) ∧ Below w.heap.size w W' := by
  have hq := fun a b c W => eq_fa a b c W
  have HC : Hid (∀ W, Below w.heap.size w W → (W.cell? ⟨B1, 0, none⟩ = some (.bool a) ∧ W.cell? ⟨B1, 1, none⟩ = some (.bool b) ∧ W.cell? ⟨B1, 2, none⟩ = some (.bool c)) ∧ (W.cell? ⟨B2, 0, none⟩ = some (.bool a) ∧ W.cell? ⟨B2, 1, none⟩ = some (.bool b) ∧ W.cell? ⟨B2, 2, none⟩ = some (.bool c))) := fun W hb =>
    ⟨⟨(hb.cell (p := ⟨B1, 0, none⟩) hl1).trans h1.1, (hb.cell (p := ⟨B1, 1, none⟩) hl1).trans h1.2.1, (hb.cell (p := ⟨B1, 2, none⟩) hl1).trans h1.2.2⟩, (hb.cell (p := ⟨B2, 0, none⟩) hl2).trans h2.1, (hb.cell (p := ⟨B2, 1, none⟩) hl2).trans h2.2.1, (hb.cell (p := ⟨B2, 2, none⟩) hl2).trans h2.2.2⟩
  clear h1 h2
  go_enter Try.func27, Try.ntmps27
  go_wp2_with fail
  go_loopw [13] (fun p wr => ∃ k : Nat, p = .int .i64 (k : Int) ∧ k ≤ 1 ∧ Hid (Below w.heap.size w wr)) (fun p _ => 1 - (intOf p).toNat)
  case atStart => exact ⟨0, rfl, by omega, Below.refl _ w⟩
  case round =>
    obtain ⟨k, rfl, hk, HB⟩ := hrel
    by_cases hk0 : k = 0
    · subst hk0
      have HB1 : Hid (Below w.heap.size w wr.drew) := HB.out.drew
      go_wp2_with fail
      refine wp_region_sch (fun W => (W.cell? ⟨B1, 0, none⟩ = some (.bool a) ∧ W.cell? ⟨B1, 1, none⟩ = some (.bool b) ∧ W.cell? ⟨B1, 2, none⟩ = some (.bool c)) ∧ (W.cell? ⟨B2, 0, none⟩ = some (.bool a) ∧ W.cell? ⟨B2, 1, none⟩ = some (.bool b) ∧ W.cell? ⟨B2, 2, none⟩ = some (.bool c))) 9 [(0,true),(1,true),(2,true),(3,true),(4,true),(5,true),(6,true),(7,true),(8,true)] _ (by kernel_rfl) (by kernel_rfl) (fun h => absurd h (by decide)) (by kernel_rfl) rfl (fun c a d v w h => by cases d <;> exact h) (HC.out _ HB1.out) ?_
      iterate 9
        refine wpSch_read rfl rfl ?_
        apply Exists.intro
        refine ⟨fun W hW => ?_, ?_⟩
        · obtain ⟨⟨x1, x2, x3⟩, y1, y2, y3⟩ := hW
          go_simp
          with_reducible rfl
        show wpSch _ _ _ _ _ _ (Act.put _ (some _) _) _
        simp only [Act.put, List.setIfInBounds_toArray, List.set_cons_zero, List.set_cons_succ]
      unfold wpSch
      go_wp2_with fail
      exact ⟨⟨1, by go_num, by omega, HB1⟩, by simp [intOf]⟩
    · obtain rfl : k = 1 := by omega
      go_wp2_with fail
      exact bodyPost_ret (by simp [results, Try.results27, go_sem]) rfl ⟨rfl, HB.out⟩
end Go.Proofs.Ytokdaapmejccbaa
namespace Go.Proofs.Ytokdaapmejccbaa
open Go.RowKit
set_option linter.unusedVariables false
set_option linter.unusedSimpArgs false
theorem facts_ok (g : Gr) {n9 : Int} (h : W9 g n9 0) (W : World) (hin : g.In W.heap.size W) :
    Calls Try.prog 24 #[g.val] W fun r W' => ∃ B m, r = .returned (.tuple #[.slice (some ⟨B, 0, none⟩) g.rules.length g.rules.length, .int .i64 0]) ∧ Fx W' B m ∧ Least fLe g.rules.length (mst g.rules) m ∧ Below W.heap.size W W' := by
  obtain ⟨-, h0, -⟩ := h.ok
  refine (facts_any g W hin).mono ?_
  rintro e W' ⟨v, rfl, hf, hb⟩
  unfold FactsR at hf
  rw [if_pos h0] at hf
  obtain ⟨B, m, rfl, -, h1, h2⟩ := hf
  rw [h0]
  exact ⟨B, m, rfl, h1, h2, hb⟩
theorem Fx.three {W : World} {B : Nat} {l : List Fa} (h : Fx W B l) {i : Nat} {F : Fa} (hi : l[i]? = some F) : W.cell? ⟨B, i * 3, none⟩ = some (.bool F.1) ∧ W.cell? ⟨B, i * 3 + 1, none⟩ = some (.bool F.2.1) ∧ W.cell? ⟨B, i * 3 + 2, none⟩ = some (.bool F.2.2) := by
  obtain ⟨cs, h1, h2, h3⟩ := h
  rw [h1.cell, h1.cell, h1.cell]
  exact h3 i F hi
theorem lit_facts (g : Gr) (hg : g.rules = [(na, elit nx)]) (W : World) (hin : g.In W.heap.size W) :
    Calls Try.prog 24 #[g.val] W fun r W' => ∃ B, r = .returned (.tuple #[.slice (some ⟨B, 0, none⟩) 1 1, .int .i64 0]) ∧ Below W.heap.size W W' ∧ Calls Try.prog 27 #[.slice (some ⟨B, 0, none⟩) 1 1, .slice (some ⟨W'.heap.size, 0, none⟩) 1 1] (W'.alloc (.cells #[.bool false, .bool true, .bool true] 61)) fun r W2 => r = .returned (.bool true) ∧ Below (W'.alloc (.cells #[.bool false, .bool true, .bool true] 61)).heap.size (W'.alloc (.cells #[.bool false, .bool true, .bool true] 61)) W2 := by
  refine (facts_ok g (lit_w9 g nx hg fx) W hin).mono ?_
  rintro e W' ⟨B, m, rfl, h1, h2, hb⟩
  rw [hg] at h2 ⊢
  obtain rfl := lit_least m h2
  have hB := h1.lt
  have h3 := (h1.alloc (.cells #[.bool false, .bool true, .bool true] 61)).three (i := 0) rfl
  have h4 := BoxN.new W' 61 #[.bool false, .bool true, .bool true]
  exact ⟨B, rfl, hb, feq_any B W'.heap.size 1 1 false true true _ (by simp; omega) (by simp) (by simpa using h3) ⟨h4.cell 0, h4.cell 1, h4.cell 2⟩⟩
set_option maxRecDepth 20000 in
set_option maxHeartbeats 8000000 in
theorem wellTold_any (g : Gr) (T : ByteArray) (rule at_ : Int) (w : World) (hin : g.In w.heap.size w) (hrb : -9223372036854775808 ≤ rule ∧ rule ≤ 9223372036854775807) (hab : -9223372036854775808 ≤ at_ ∧ at_ ≤ 9223372036854775807) :
    Calls Try.prog 7 #[g.val, .string T, .int .i64 rule, .int .i64 at_] w fun r W' => r = .returned (.bool true) ∧ Below w.heap.size w W' := by
  obtain ⟨n9, e9, h9⟩ := w9_ex g
  have HB : Hid (Gbx g w _) := Gbx.new g w
  have hl := lit_any nx
  have h1 := fun W hin => one_any (elit nx) W hin
  have hv : (elit nx).val = _ := exo_val 3 nx none 0 []
  have HX : Hid (∀ W, (elit nx).In W.heap.size W) := fun W => by
    unfold elit exo
    rw [Ex.In]
    exact ⟨⟨by simp, by decide⟩, by rw [Ex.In.InL]; trivial⟩
  have hq := fun a b x y W => eq_oc a b x y W
  rw [hv] at h1
  rw [show (exo 3 nx none 0 []).val = _ from hv] at hl
  unfold nx at hl h1
  clear hv
  by_cases h0 : lkE T e9 = 0
  · by_cases hbad : rule < 0 ∨ (g.rules.length : Int) ≤ rule ∨ at_ < 0 ∨ (T.size : Int) < at_
    · have hat := fun (W : World) (hb : Below w.heap.size w W) => packAt_arg g T rule at_ hrb hab h9 h0 hbad W (hin.grow hb)
      unfold oval ocells at hat
      clear hbad
      rw [gval_eq] at hat ⊢
      clear h9 hin
      go_enter Try.func7, Try.ntmps7
      go_wp2_with (first
        | (go_at_call 26; refine (hl _).mono ?_; rintro e1 W1 ⟨rfl, hb1⟩; have HB1 : Hid _ := HB.out.step hb1; have h11 := h1 W1 (HX.out W1); clear hb1 hl h1 HX)
        | (go_at_call 25; refine h11.mono ?_; rintro e2 W2 ⟨g1, rfl, hg1, hin1, hb2⟩; have HB2 : Hid _ := HB1.out.step hb2; have h24 := lit_facts g1 hg1 W2 hin1; rw [gval_eq] at h24; clear hb2 h11 HB1)
        | (go_at_call 24; refine h24.mono ?_; rintro e3 W3 ⟨B3, rfl, hb3, h27⟩; have HB3 : Hid (Gbx g w (W3.alloc (.cells #[.bool false, .bool true, .bool true] 61))) := (HB2.out.step hb3).alloc _; clear hb3 h24 HB2)
        | (go_at_call 27; refine h27.mono ?_; rintro e4 W4 ⟨rfl, hb4⟩; have HB4 : Hid _ := HB3.out.step hb4; have c4 := HB4.out.cell; have h23 := hat _ HB4.out.bel; clear hb4 h27 HB3)
        | (go_at_call 23; refine h23.mono ?_; rintro e5 W5 ⟨rfl, hb5⟩; have HB5 : Hid (Gbx g w (W5.alloc (.cells #[.bool false, .int .i64 0] 29))) := (HB4.out.step hb5).alloc _; have c5 := HB5.out.cell; clear hb5 h23 HB4 c4))
      exact bodyPost_ret (by simp [results, Try.results7, go_sem]) rfl ⟨rfl, HB5.out.bel⟩
    · obtain ⟨i, rfl⟩ : ∃ i : Nat, rule = i := ⟨rule.toNat, by omega⟩
      obtain ⟨p, rfl⟩ : ∃ p : Nat, at_ = p := ⟨at_.toNat, by omega⟩
      have hi : i < g.rules.length := by omega
      have hp : p ≤ T.size := by omega
      obtain ⟨rfl, hT⟩ := lkE_zero h0
      obtain ⟨r0, hr0⟩ : ∃ r, g.rules[i]? = some r := ⟨_, List.getElem?_eq_getElem hi⟩
      obtain ⟨o, L, hP⟩ := pk_ex h9 T hT hr0 hp
      have hat := fun (W : World) (hb : Below w.heap.size w W) => packAt_ok g T h9 h0 hi hp hP W (hin.grow hb)
      obtain ⟨mm, hmm⟩ : ∃ m, Least fLe g.rules.length (mst g.rules) m := by
        obtain ⟨-, -, -, -, lf, hW⟩ := h9.ok
        exact ⟨lf, hW.may⟩
      obtain ⟨⟨f1, f2, f3⟩, hF, hD⟩ := pk_told h9 hp hP hmm
      have hfo : ∀ W : World, Below w.heap.size w W → Calls Try.prog 24 #[g.val] W fun r W' => ∃ B, r = .returned (.tuple #[.slice (some ⟨B, 0, none⟩) g.rules.length g.rules.length, .int .i64 0]) ∧ W'.cell? ⟨B, i * 3, none⟩ = some (.bool f1) ∧ W'.cell? ⟨B, i * 3 + 1, none⟩ = some (.bool f2) ∧ W'.cell? ⟨B, i * 3 + 2, none⟩ = some (.bool f3) ∧ Below W.heap.size W W' := fun W hb => by
        refine (facts_ok g h9 W (hin.grow hb)).mono ?_
        rintro e W' ⟨B, m, rfl, k1, k2, k3⟩
        obtain rfl := k2.uniq fLat hmm
        obtain ⟨k4, k5, k6⟩ := k1.three hF
        exact ⟨B, rfl, k4, k5, k6, k3⟩
      clear h9 hin hP hr0 hmm hF hbad h0
      cases o with
      | none =>
        obtain rfl : f3 = true := hD
        unfold oval ocells at hat
        rw [gval_eq] at hat hfo ⊢
        go_enter Try.func7, Try.ntmps7
        go_wp2_with (first
          | (go_at_call 26; refine (hl _).mono ?_; rintro e1 W1 ⟨rfl, hb1⟩; have HB1 : Hid _ := HB.out.step hb1; have h11 := h1 W1 (HX.out W1); clear hb1 hl h1 HX)
          | (go_at_call 25; refine h11.mono ?_; rintro e2 W2 ⟨g1, rfl, hg1, hin1, hb2⟩; have HB2 : Hid _ := HB1.out.step hb2; have h24 := lit_facts g1 hg1 W2 hin1; rw [gval_eq] at h24; clear hb2 h11 HB1)
          | (go_at_call 24; refine h24.mono ?_; rintro e3 W3 ⟨B3, rfl, hb3, h27⟩; have HB3 : Hid (Gbx g w (W3.alloc (.cells #[.bool false, .bool true, .bool true] 61))) := (HB2.out.step hb3).alloc _; clear hb3 h24 HB2)
          | (go_at_call 27; refine h27.mono ?_; rintro e4 W4 ⟨rfl, hb4⟩; have HB4 : Hid _ := HB3.out.step hb4; have c4 := HB4.out.cell; have h23 := hat _ HB4.out.bel; clear hb4 h27 HB3)
          | (go_at_call 23; refine h23.mono ?_; rintro e5 W5 ⟨rfl, hb5⟩; have HB5 : Hid (Gbx g w (W5.alloc (.cells #[.bool false, .int .i64 0] 29))) := (HB4.out.step hb5).alloc _; have c5 := HB5.out.cell; have HO5 : Hid (BoxN (W5.alloc (.cells #[.bool false, .int .i64 0] 29)) W5.heap.size 29 #[.bool false, .int .i64 0]) := BoxN.new W5 29 _; have h24 := hfo _ HB5.out.bel; clear hb5 h23 HB4 c4)
          | (go_at_call 24; refine h24.mono ?_; rintro e6 W6 ⟨B6, rfl, h60, h61, h62, hb6⟩; have HB6 : Hid (Gbx g w (W6.alloc (.cells #[.bool f1, .bool f2, .bool true] 61))) := (HB5.out.step hb6).alloc _; have HO6 : Hid (BoxN (W6.alloc (.cells #[.bool f1, .bool f2, .bool true] 61)) W5.heap.size 29 #[.bool false, .int .i64 0]) := (HO5.out.below hb6 HO5.out.lt).alloc _; have d0 := HO6.out.cell 0; have d1 := HO6.out.cell 1; simp only [List.getElem?_toArray, List.getElem?_cons_zero, List.getElem?_cons_succ] at d0 d1; have c6 := (HB5.out.step hb6).cell; clear hb6 h24 HB5 c5))
        exact bodyPost_ret (by simp [results, Try.results7, go_sem]) rfl ⟨rfl, HB6.out.bel⟩
      | some q =>
        obtain ⟨hq1, hq2, hq3, hq4⟩ := hD
        by_cases hqp : q = p
        · subst hqp
          obtain rfl : f1 = true := hq3 rfl
          rw [oval_same] at hat
          rw [gval_eq] at hat hfo ⊢
          go_enter Try.func7, Try.ntmps7
          go_wp2_with (first
            | (go_at_call 26; refine (hl _).mono ?_; rintro e1 W1 ⟨rfl, hb1⟩; have HB1 : Hid _ := HB.out.step hb1; have h11 := h1 W1 (HX.out W1); clear hb1 hl h1 HX)
            | (go_at_call 25; refine h11.mono ?_; rintro e2 W2 ⟨g1, rfl, hg1, hin1, hb2⟩; have HB2 : Hid _ := HB1.out.step hb2; have h24 := lit_facts g1 hg1 W2 hin1; rw [gval_eq] at h24; clear hb2 h11 HB1)
            | (go_at_call 24; refine h24.mono ?_; rintro e3 W3 ⟨B3, rfl, hb3, h27⟩; have HB3 : Hid (Gbx g w (W3.alloc (.cells #[.bool false, .bool true, .bool true] 61))) := (HB2.out.step hb3).alloc _; clear hb3 h24 HB2)
            | (go_at_call 27; refine h27.mono ?_; rintro e4 W4 ⟨rfl, hb4⟩; have HB4 : Hid _ := HB3.out.step hb4; have c4 := HB4.out.cell; have h23 := hat _ HB4.out.bel; clear hb4 h27 HB3)
            | (go_at_call 23; refine h23.mono ?_; rintro e5 W5 ⟨rfl, hb5⟩; have HB5 : Hid (Gbx g w (W5.alloc (.cells #[.bool true, .int .i64 0] 29))) := (HB4.out.step hb5).alloc _; have c5 := HB5.out.cell; have HO5 : Hid (BoxN (W5.alloc (.cells #[.bool true, .int .i64 0] 29)) W5.heap.size 29 #[.bool true, .int .i64 0]) := BoxN.new W5 29 _; have h24 := hfo _ HB5.out.bel; clear hb5 h23 HB4 c4)
            | (go_at_call 24; refine h24.mono ?_; rintro e6 W6 ⟨B6, rfl, h60, h61, h62, hb6⟩; have HB6 : Hid (Gbx g w (W6.alloc (.cells #[.bool true, .bool f2, .bool f3] 61))) := (HB5.out.step hb6).alloc _; have HO6 : Hid (BoxN (W6.alloc (.cells #[.bool true, .bool f2, .bool f3] 61)) W5.heap.size 29 #[.bool true, .int .i64 0]) := (HO5.out.below hb6 HO5.out.lt).alloc _; have d0 := HO6.out.cell 0; have d1 := HO6.out.cell 1; simp only [List.getElem?_toArray, List.getElem?_cons_zero, List.getElem?_cons_succ] at d0 d1; have c6 := (HB5.out.step hb6).cell; clear hb6 h24 HB5 c5))
          exact bodyPost_ret (by simp [results, Try.results7, go_sem]) rfl ⟨rfl, HB6.out.bel⟩
        · obtain rfl : f2 = true := hq4 (by omega)
          obtain ⟨n, hn⟩ : ∃ n : Int, (q : Int) - p = n := ⟨_, rfl⟩
          have hn0 : (n == 0) = false := by simp; omega
          have hn1 : ¬ n ≤ 0 := by omega
          rw [oval_some, hn] at hat
          clear hq1 hq2 hq3 hq4 hqp hn
          rw [gval_eq] at hat hfo ⊢
          go_enter Try.func7, Try.ntmps7
          go_wp2_with (first
            | (go_at_call 26; refine (hl _).mono ?_; rintro e1 W1 ⟨rfl, hb1⟩; have HB1 : Hid _ := HB.out.step hb1; have h11 := h1 W1 (HX.out W1); clear hb1 hl h1 HX)
            | (go_at_call 25; refine h11.mono ?_; rintro e2 W2 ⟨g1, rfl, hg1, hin1, hb2⟩; have HB2 : Hid _ := HB1.out.step hb2; have h24 := lit_facts g1 hg1 W2 hin1; rw [gval_eq] at h24; clear hb2 h11 HB1)
            | (go_at_call 24; refine h24.mono ?_; rintro e3 W3 ⟨B3, rfl, hb3, h27⟩; have HB3 : Hid (Gbx g w (W3.alloc (.cells #[.bool false, .bool true, .bool true] 61))) := (HB2.out.step hb3).alloc _; clear hb3 h24 HB2)
            | (go_at_call 27; refine h27.mono ?_; rintro e4 W4 ⟨rfl, hb4⟩; have HB4 : Hid _ := HB3.out.step hb4; have c4 := HB4.out.cell; have h23 := hat _ HB4.out.bel; clear hb4 h27 HB3)
            | (go_at_call 23; refine h23.mono ?_; rintro e5 W5 ⟨rfl, hb5⟩; have HB5 : Hid (Gbx g w (W5.alloc (.cells #[.bool true, .int .i64 n] 29))) := (HB4.out.step hb5).alloc _; have c5 := HB5.out.cell; have HO5 : Hid (BoxN (W5.alloc (.cells #[.bool true, .int .i64 n] 29)) W5.heap.size 29 #[.bool true, .int .i64 n]) := BoxN.new W5 29 _; have h24 := hfo _ HB5.out.bel; clear hb5 h23 HB4 c4)
            | (go_at_call 24; refine h24.mono ?_; rintro e6 W6 ⟨B6, rfl, h60, h61, h62, hb6⟩; have HB6 : Hid (Gbx g w (W6.alloc (.cells #[.bool f1, .bool true, .bool f3] 61))) := (HB5.out.step hb6).alloc _; have HO6 : Hid (BoxN (W6.alloc (.cells #[.bool f1, .bool true, .bool f3] 61)) W5.heap.size 29 #[.bool true, .int .i64 n]) := (HO5.out.below hb6 HO5.out.lt).alloc _; have d0 := HO6.out.cell 0; have d1 := HO6.out.cell 1; simp only [List.getElem?_toArray, List.getElem?_cons_zero, List.getElem?_cons_succ] at d0 d1; have c6 := (HB5.out.step hb6).cell; clear hb6 h24 HB5 c5))
          exact bodyPost_ret (by simp [results, Try.results7, go_sem]) rfl ⟨rfl, HB6.out.bel⟩
  · have hat := fun (W : World) (hb : Below w.heap.size w W) => packAt_bad g T rule at_ h9 h0 W (hin.grow hb)
    unfold oval ocells at hat
    generalize lkE T e9 = kk at *
    have q1 : (kk != 0) = true := by simpa using h0
    rw [gval_eq] at hat ⊢
    clear h9 hin
    go_enter Try.func7, Try.ntmps7
    go_wp2_with (first
      | (go_at_call 26; refine (hl _).mono ?_; rintro e1 W1 ⟨rfl, hb1⟩; have HB1 : Hid _ := HB.out.step hb1; have h11 := h1 W1 (HX.out W1); clear hb1 hl h1 HX)
      | (go_at_call 25; refine h11.mono ?_; rintro e2 W2 ⟨g1, rfl, hg1, hin1, hb2⟩; have HB2 : Hid _ := HB1.out.step hb2; have h24 := lit_facts g1 hg1 W2 hin1; rw [gval_eq] at h24; clear hb2 h11 HB1)
      | (go_at_call 24; refine h24.mono ?_; rintro e3 W3 ⟨B3, rfl, hb3, h27⟩; have HB3 : Hid (Gbx g w (W3.alloc (.cells #[.bool false, .bool true, .bool true] 61))) := (HB2.out.step hb3).alloc _; clear hb3 h24 HB2)
      | (go_at_call 27; refine h27.mono ?_; rintro e4 W4 ⟨rfl, hb4⟩; have HB4 : Hid _ := HB3.out.step hb4; have c4 := HB4.out.cell; have h23 := hat _ HB4.out.bel; clear hb4 h27 HB3)
      | (go_at_call 23; refine h23.mono ?_; rintro e5 W5 ⟨rfl, hb5⟩; have HB5 : Hid (Gbx g w (W5.alloc (.cells #[.bool false, .int .i64 0] 29))) := (HB4.out.step hb5).alloc _; have c5 := HB5.out.cell; clear hb5 h23 HB4 c4))
    exact bodyPost_ret (by simp [results, Try.results7, go_sem]) rfl ⟨rfl, HB5.out.bel⟩
end Go.Proofs.Ytokdaapmejccbaa
